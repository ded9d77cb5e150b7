/-
  The two iterators: all pairs of indices; the edits from a pair on.
-/
import Derived.Test.YtkpmkeklopfhdaaEdStr
import Derived.RangeFuncNested
import Derived.RangeFuncCalls
import Derived.RangeFuncWrites
import Derived.RangeFuncFrom
import Derived.RangeFuncBox
namespace Go.Proofs.Ytkpmkeklopfhdaa
open Go.ChangeShapes Go.WideShapes Go.ChangeAt Go.RowKit
attribute [local go_sem] Oper.semAt_some
set_option maxRecDepth 100000

/-- The pairs ahead of a pair. -/
def preP (lb i j : Nat) : List (Nat × Nat) := ((List.range i).flatMap fun r => (List.range (lb + 1)).map fun c => (r, c)) ++ (List.range j).map fun c => (i, c)
theorem pairs_eq (la lb : Nat) : pairs la lb = preP lb (la + 1) 0 := by unfold pairs preP; simp
theorem preP_00 (lb : Nat) : preP lb 0 0 = [] := rfl
theorem preP_step (lb i j : Nat) : preP lb i (j + 1) = preP lb i j ++ [(i, j)] := by
  have e : List.range (j + 1) = List.range j ++ [j] := List.range_succ
  unfold preP; rw [e, List.map_append, List.append_assoc]; rfl
theorem preP_row (lb i : Nat) : preP lb (i + 1) 0 = preP lb i (lb + 1) := by
  have e : List.range (i + 1) = List.range i ++ [i] := List.range_succ
  unfold preP; rw [e, List.flatMap_append]; simp
theorem preP_length (lb i j : Nat) : (preP lb i j).length = i * (lb + 1) + j := by
  unfold preP
  rw [List.length_append, List.length_map, List.length_range]
  congr 1
  induction i with
  | zero => simp
  | succ i ih =>
    have e : List.range (i + 1) = List.range i ++ [i] := List.range_succ
    rw [e, List.flatMap_append, List.length_append, ih, Nat.succ_mul]; simp
theorem preP_col (lb i j : Nat) : ∀ d, ∃ r, preP lb i (j + d) = preP lb i j ++ r
  | 0 => ⟨[], by simp⟩
  | d + 1 => by obtain ⟨r, hr⟩ := preP_col lb i j d; exact ⟨r ++ [(i, j + d)], by rw [← Nat.add_assoc, preP_step, hr, List.append_assoc]⟩
theorem preP_rows (lb i : Nat) : ∀ d, ∃ r, preP lb (i + d) 0 = preP lb i 0 ++ r
  | 0 => ⟨[], by simp⟩
  | d + 1 => by
    obtain ⟨r, hr⟩ := preP_rows lb i d
    obtain ⟨r2, hr2⟩ := preP_col lb (i + d) 0 (lb + 1)
    rw [Nat.zero_add] at hr2
    exact ⟨r ++ r2, by rw [← Nat.add_assoc, preP_row, hr2, hr, List.append_assoc]⟩
theorem preP_pre {la lb i j : Nat} (hi : i ≤ la) (hj : j ≤ lb + 1) : ∃ r, pairs la lb = preP lb i j ++ r := by
  obtain ⟨r, hr⟩ := preP_col lb i j (lb + 1 - j)
  rw [show j + (lb + 1 - j) = lb + 1 by omega, ← preP_row] at hr
  obtain ⟨r2, hr2⟩ := preP_rows lb (i + 1) (la - i)
  rw [show i + 1 + (la - i) = la + 1 by omega] at hr2
  exact ⟨r ++ r2, by rw [pairs_eq, hr2, hr, List.append_assoc]⟩

abbrev pairV (p : Nat × Nat) : Value := .agg #[.int .i64 (p.1 : Int), .int .i64 (p.2 : Int)]
abbrev PT (la lb : Nat) : Type := {p : Nat × Nat // p.1 ≤ la ∧ p.2 ≤ lb}
def encP {la lb : Nat} (p : PT la lb) : Array Value := #[pairV p.val]

theorem places_any (la lb : Nat) (w : World) : Calls Try.prog 88 #[pairV (la, lb)] w fun e w' => e = .returned (.func (.func 107) #[] #[.pointer (some ⟨w.heap.size, 0, none⟩)]) ∧ w.alloc (.cells #[.int .i64 (la : Int), .int .i64 (lb : Int)] 65) = w' := by
  go_enter Try.func88, Try.ntmps88
  go_wp2
  go_ret
  exact ⟨rfl, rfl⟩

set_option maxHeartbeats 2000000 in
theorem places1_stops (S : Nat → Prop) (k la lb Bt : Nat) (hk : 1 ≤ k) (ha : la ≤ 12) (hb : lb ≤ 12) (w : World) (hS : S Bt) (h0 : w.cell? ⟨Bt, 0, none⟩ = some (.int .i64 (la : Int))) (h1 : w.cell? ⟨Bt, 1, none⟩ = some (.int .i64 (lb : Int))) :
    SeqStopsK Fence.wide k Try.prog 107 #[.pointer (some ⟨Bt, 0, none⟩)] (encP (la := la) (lb := lb)) (KeptOn S) (fun ys => ys.map Subtype.val = pairs la lb) (fun ys => ∃ r, pairs la lb = ys.map Subtype.val ++ r) 200 w :=
  fun l J Jx W hW hJ hJx hY hj => by
  have c0 : W.cell? ⟨Bt, 0, none⟩ = some (.int .i64 (la : Int)) := cell_later hW h0
  have c1 : W.cell? ⟨Bt, 1, none⟩ = some (.int .i64 (lb : Int)) := cell_later hW h1
  have H0 := Lib.hid (fun W' (hk : KeptOn S W W') => ((hk.cell (p := ⟨Bt, 0, none⟩) hS).trans c0))
  have H1 := Lib.hid (fun W' (hk : KeptOn S W W') => ((hk.cell (p := ⟨Bt, 1, none⟩) hS).trans c1))
  have HJ := Lib.hid hj
  clear h0 h1 hW hj hS
  refine callsIn_of_wp Try.func107 rfl trivial ?_ rfl
  simp only [Try.ntmps107, List.size_toArray, List.length_cons, List.length_nil, Nat.reduceAdd, Nat.reduceSub, Array.replicate_succ, Array.replicate_zero, List.push_toArray, List.append_toArray, List.nil_append, List.cons_append]
  gi_wp2_with fail
  gi_loopw [3, 4, 8] (fun _ _ i wr => ∃ (r : Nat) (pre : List (PT la lb)), r ≤ la + 1 ∧ i = .int .i64 r ∧ pre.map Subtype.val = preP lb r 0 ∧ J pre wr ∧ KeptOn S W wr) (fun _ _ i _ => la + 1 - (intOf i).toNat)
  case atStart => exact ⟨0, [], by omega, rfl, rfl, HJ.out, KeptOn.refl _ _⟩
  case round =>
    obtain ⟨r, pre0, hr, rfl, hp0, hJs, hK⟩ := hrel
    have HP0 := Lib.hid hp0
    clear hp0
    have d1 := H1.out wr hK
    have HJs := Lib.hid hJs
    have HK := Lib.hid hK
    clear hJs hK c0 c1
    by_cases hrl : r < la + 1
    · gi_wp2_with fail
      try rw [show decide ((r : Int) < (la : Int) + 1) = true from decide_eq_true (by omega)]
      gi_loopw [4, 14] (fun _ j wr => ∃ (c : Nat) (pre : List (PT la lb)), c ≤ lb + 1 ∧ j = .int .i64 c ∧ pre.map Subtype.val = preP lb r c ∧ J pre wr ∧ KeptOn S W wr) (fun _ j _ => lb + 1 - (intOf j).toNat)
      case atStart => exact ⟨0, pre0, by omega, rfl, HP0.out, HJs.out, HK.out⟩
      case round =>
        obtain ⟨c, pre, hc, rfl, hpp, hJs, hK⟩ := hrel
        by_cases hcl : c < lb + 1
        · have hlen : pre.length < 200 := by
            have e := congrArg List.length hpp
            rw [List.length_map, preP_length] at e
            rw [e]
            have : r * (lb + 1) ≤ 12 * 13 := Nat.mul_le_mul (by omega) (by omega)
            omega
          obtain ⟨fn, tmps, assign, body, hy, hR⟩ := hY pre ⟨(r, c), by dsimp only; omega⟩ wr hJs hlen
          dsimp only [encP, pairV] at hy
          have hR' := Lib.hid hR
          have HKw := Lib.hid hK
          have HNx := Lib.hid (show (pre ++ [(⟨(r, c), by dsimp only; omega⟩ : PT la lb)]).map Subtype.val = preP lb r (c + 1) by rw [List.map_append, hpp, preP_step]; rfl)
          have HP := Lib.hid (preP_pre (la := la) (lb := lb) (i := r) (j := c + 1) (by omega) (by omega))
          clear hR hJs hK d1 hpp
          gi_wp2_with fail
          refine hR'.out.mono ?_
          rintro e W3 (⟨rfl, hJ3, hk3⟩ | ⟨rfl, hJx3⟩)
          · gi_wp2
            go_roundw
            case rel => exact ⟨c + 1, _, by omega, by go_num, HNx.out, hJ3, HKw.out.trans hk3⟩
            case measure => simp only [intOf]; omega
          · gi_wp2
            refine bodyPost_ret (results_none rfl _ _ _) rfl ?_
            exact ⟨⟨_, rfl⟩, .inr ⟨_, by rw [HNx.out]; exact HP.out, hJx3⟩⟩
        · obtain rfl : c = lb + 1 := by omega
          have HJ2 := Lib.hid hJs
          have HK2 := Lib.hid hK
          have HE := Lib.hid (show pre.map Subtype.val = preP lb (r + 1) 0 by rw [hpp, preP_row])
          clear hJs hK d1 hpp
          gi_wp2
          first
            | (refine ⟨⟨_, _, .int .i64 ((r : Int) + 1), ⟨r + 1, pre, by omega, by simp, HE.out, HJ2.out, HK2.out⟩, rfl, rfl, rfl⟩, ?_⟩; simp only [intOf]; omega)
            | (refine ⟨⟨r + 1, pre, by omega, by simp, HE.out, HJ2.out, HK2.out⟩, ?_⟩; simp only [intOf]; omega)
            | (go_roundw
               case rel => exact ⟨r + 1, pre, by omega, by go_num, HE.out, HJ2.out, HK2.out⟩
               case measure => simp only [intOf]; omega)
    · obtain rfl : r = la + 1 := by omega
      gi_wp2
      go_end0
      exact ⟨⟨_, rfl⟩, .inl ⟨_, HP0.out.trans (pairs_eq la lb).symm, HJs.out⟩⟩
end Go.Proofs.Ytkpmkeklopfhdaa
