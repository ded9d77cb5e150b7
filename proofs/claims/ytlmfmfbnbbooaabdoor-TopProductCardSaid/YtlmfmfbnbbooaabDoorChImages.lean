/-
  images, prime: their contracts.
-/
import Derived.Test.YtlmfmfbnbbooaabDoorChLeafA
import Derived.Test.YtlmfmfbnbbooaabDoorChStillFns
import Derived.Deep.RegionHeld3
namespace Go.Proofs.YtlmfmfbnbbooaabDoor.Ch
open Go.RowKit Go.Shelf
attribute [local go_sem] Oper.semAt_some
set_option maxRecDepth 100000

/-- The images of a chord, in the order in which they come. -/
def imgOf (n c : Nat) : List Nat := (List.range n).map (mvN n c) 
def imgs (n c : Nat) : List Nat := imgOf n c ++ imgOf n (mulN n c (-1))

theorem imgOf_length (n c : Nat) : (imgOf n c).length = n := by simp [imgOf]

theorem imgs_sub1 {n c t y : Nat} {pre : List (Fin (2 ^ n))} (hi : imgs n c = imgOf n c ++ imgOf n t) (hy : y < n) (h : pre.map Fin.val = (List.range (y + 1)).map (mvN n c)) : ∀ x ∈ pre, x.val ∈ imgs n c := by
  intro x hx
  have hm : x.val ∈ pre.map Fin.val := List.mem_map.2 ⟨x, hx, rfl⟩
  rw [h] at hm
  obtain ⟨i, hi', e⟩ := List.mem_map.1 hm
  have := List.mem_range.1 hi'
  rw [hi, ← e]
  exact List.mem_append_left _ (List.mem_map.2 ⟨i, List.mem_range.2 (by omega), rfl⟩)
theorem imgs_sub2 {n c t y : Nat} {pre : List (Fin (2 ^ n))} (hi : imgs n c = imgOf n c ++ imgOf n t) (hy : y < n) (h : pre.map Fin.val = imgOf n c ++ (List.range (y + 1)).map (mvN n t)) : ∀ x ∈ pre, x.val ∈ imgs n c := by
  intro x hx
  have hm : x.val ∈ pre.map Fin.val := List.mem_map.2 ⟨x, hx, rfl⟩
  rw [h] at hm
  rw [hi]
  rcases List.mem_append.1 hm with hm | hm
  · exact List.mem_append_left _ hm
  · obtain ⟨i, hi', e⟩ := List.mem_map.1 hm
    have := List.mem_range.1 hi'
    rw [← e]
    exact List.mem_append_right _ (List.mem_map.2 ⟨i, List.mem_range.2 (by omega), rfl⟩)

theorem run_index0 (a b : Value) (w : World) : (Instr.index 77 (.agg #[a, b]) (.int .i64 0)).run Tryd.prog w = .ok a w := by
  simp [Instr.index, run_underlying Tryd.underlying77, asIntOf, go_sem]
theorem run_index1 (a b : Value) (w : World) : (Instr.index 77 (.agg #[a, b]) (.int .i64 1)).run Tryd.prog w = .ok b w := by
  simp [Instr.index, run_underlying Tryd.underlying77, asIntOf, go_sem]

theorem images_any (n c : Int) (w : World) :
    Calls Tryd.prog 69 #[.int .i64 n, .int .i64 c] w fun e w' => e = .returned (.func (.func 81) #[] #[.pointer (some ⟨w.heap.size + 1, 0, none⟩), .pointer (some ⟨w.heap.size, 0, none⟩)]) ∧ (w.alloc (.cells #[.int .i64 n] 3)).alloc (.cells #[.int .i64 c] 3) = w' := by
  go_enter Tryd.func69, Tryd.ntmps69
  go_wp2
  go_ret
  refine ⟨?_, rfl⟩
  simp

set_option maxHeartbeats 1000000 in
theorem images1_stops (S : Nat → Prop) (k n c Bc Bn : Nat) (hk : 1 ≤ k) (hn1 : 2 ≤ n) (hn : n ≤ 16) (hc : c < 2 ^ n) (w : World) (hT : Tab w) (hg : S 1)
    (hSw : ∀ i, S i → i < w.heap.size) (hSn : S Bn)
    (hBc : w.cell? ⟨Bc, 0, none⟩ = some (.int .i64 c)) (hBn : w.cell? ⟨Bn, 0, none⟩ = some (.int .i64 n)) :
    SeqStopsK Fence.wide k Tryd.prog 81 #[.pointer (some ⟨Bc, 0, none⟩), .pointer (some ⟨Bn, 0, none⟩)] (fun t : Fin (2 ^ n) => #[.int .i64 (t.val : Int)]) (KeptOn S) (fun ys => ys.map Fin.val = imgs n c) (fun pre => ∀ x ∈ pre, x.val ∈ imgs n c) 64 w :=
  fun l J Jx W hW hJ hJx hY h0 => by
  have hTW : Tab W := hT.same hW
  have hCW : W.cell? ⟨Bc, 0, none⟩ = some (.int .i64 c) := cell_later hW hBc
  have hNW : W.cell? ⟨Bn, 0, none⟩ = some (.int .i64 n) := cell_later hW hBn
  have HT := Lib.hid (turn_any n c hn1 hn hc)
  have hsz := hW.size
  clear hBc hBn hT
  refine callsIn_of_wp Tryd.func81 rfl trivial ?_ rfl
  simp only [Tryd.ntmps81, List.size_toArray, List.length_cons, List.length_nil, Nat.reduceAdd, Nat.reduceSub, Array.replicate_succ, Array.replicate_zero, List.push_toArray, List.append_toArray, List.nil_append, List.cons_append]
  gi_wp2_with fail
  refine wpIn_wide.2 ?_
  go_region_held3 (fun w' => Below W.heap.size W w' ∧ Tab w' ∧ w'.cell? ⟨Bc, 0, none⟩ = some (.int .i64 c) ∧ w'.cell? ⟨Bn, 0, none⟩ = some (.int .i64 n)) (first | exact ⟨(Below.refl _ W).drew, hTW.same (Below.refl _ W).drew, hCW, hNW⟩ | go_keep | exact ⟨below_next (Below.refl _ W).drew hb, (hTW.same (Below.refl _ W).drew).same hb, cell_later hb hCW, cell_later hb hNW⟩) (first | (go_at_call 43; refine (HT.out _ (hTW.same (Below.refl _ W).drew)).mono ?_; rintro e w' ⟨rfl, hb⟩))
  have hH := ‹Below W.heap.size W w' ∧ _›
  obtain ⟨hBw, _, _, _⟩ := hH
  have HM := Lib.hid (fun k hk => move_nat n c k hn1 hn hc hk)
  have HM2 := Lib.hid (fun k hk => move_nat n (mulN n c (-1)) k hn1 hn (mulN_lt16 hn1) hk)
  have hi : imgs n c = imgOf n c ++ imgOf n (mulN n c (-1)) := rfl
  have HI := Lib.hid hi
  generalize mulN n c (-1) = t at HM2 HI HT ⊢
  have hK0 : KeptOn S W w' := (KeptOn.refl _ _).below hBw (fun i h => by have := hSw i h; omega)
  have hJ0 : J [] w' := hJ _ _ _ none h0 ⟨hBw.os, hBw.tape, hBw.output, hBw.size, fun i hi _ => hBw.block i hi⟩ (by intro r e; cases e)
  have hY' : ∀ (pre : List (Fin (2 ^ n))) (x : Fin (2 ^ n)) (wr : World) (mm : Nat), J pre wr → pre.length < 64 → YieldAt Fence.wide (k - 1) Tryd.prog l #[.int .i64 (x.val : Int)] (wr.drewN mm) fun e W' =>
      (e = .returned (.bool true) ∧ J (pre ++ [x]) W' ∧ KeptOn S (wr.drewN mm) W') ∨ (e = .returned (.bool false) ∧ Jx (pre ++ [x]) W') := fun pre x wr mm hp hl =>
    hY pre x (wr.drewN mm) (hJ _ _ _ none hp ⟨rfl, rfl, rfl, Nat.le_refl _, fun _ _ _ => rfl⟩ (by intro r e; cases e)) hl
  clear hi hBw hJ hY h0 HT hb
  gi_wp2_with fail
  gi_loopw [5, 6, 12] (fun _ _ i wr => ∃ (u : Nat) (pre : List (Fin (2 ^ n))), u ≤ 2 ∧ i = .int .i64 u ∧ J pre wr ∧ KeptOn S W wr ∧ pre.map Fin.val = if u = 0 then [] else if u = 1 then imgOf n c else imgs n c) (fun _ _ i _ => 2 - (intOf i).toNat)
  case atStart => exact ⟨0, [], by omega, rfl, hJ0, hK0, rfl⟩
  case round =>
    obtain ⟨u, pre, hu, rfl, hJs, hb, hx⟩ := hrel
    have hnr0 := (hb.cell (p := ⟨Bn, 0, none⟩) hSn).trans hNW
    have hJs := Lib.hid hJs
    have HK := Lib.hid hb
    have hx := Lib.hid hx
    clear hb
    have hi0 := run_index0 (.int .i64 c) (.int .i64 t) wr
    have hi1 := run_index1 (.int .i64 c) (.int .i64 t) wr
    obtain rfl | rfl | rfl : u = 0 ∨ u = 1 ∨ u = 2 := by omega
    · gi_wp2_with fail
      gi_loopw [6, 16] (fun _ j wr => ∃ (y : Nat) (pre : List (Fin (2 ^ n))), y ≤ n ∧ j = .int .i64 y ∧ J pre wr ∧ KeptOn S W wr ∧ pre.map Fin.val = (List.range y).map (mvN n c)) (fun _ j _ => n - (intOf j).toNat)
      case atStart => exact ⟨0, pre, Nat.zero_le _, rfl, hJs.out, HK.out, by rw [hx.out]; simp⟩
      case round =>
        obtain ⟨y, pre, hy, rfl, hJs, hb, hx⟩ := hrel
        have hnr := (hb.cell (p := ⟨Bn, 0, none⟩) hSn).trans hNW
        by_cases hlt : y < n
        · have hm := Lib.hid (HM.out y hlt)
          have hlen : pre.length < 64 := by
            have e := congrArg List.length hx
            simp [imgOf_length] at e
            omega
          have hnext := Lib.hid (show (pre ++ [(⟨mvN n c y, mv_lt⟩ : Fin (2 ^ n))]).map Fin.val = (List.range (y + 1)).map (mvN n c) by
            rw [List.map_append, hx, List.range_succ, List.map_append]; simp)
          have hYY := Lib.hid (fun mm => hY' pre ⟨mvN n c y, mv_lt⟩ wr mm hJs hlen)
          have hb' := Lib.hid hb
          clear hJs hx hb
          dsimp only at hYY
          generalize (⟨mvN n c y, mv_lt⟩ : Fin (2 ^ n)) = xx at hYY hnext
          generalize mvN n c y = mk at hm hYY
          gi_wp2_with (refine ⟨trivial, ?_⟩; gi_at_call 42; refine (callsIn_wide.2 (hm.out _)).mono ?_; rintro e w' ⟨rfl, mm, rfl⟩; obtain ⟨fn, tmps, assign, body, hy, hR⟩ := hYY.out mm; have hR' := Lib.hid hR; clear hR)
          refine hR'.out.mono ?_
          rintro e W3 (⟨rfl, hJ3, hk3⟩ | ⟨rfl, hJx3⟩)
          · gi_wp2
            go_roundw
            case rel => exact ⟨y + 1, _, by omega, by go_num, hJ3, (hb'.out.drewN mm).trans hk3, hnext.out⟩
            case measure => simp only [intOf]; omega
          · gi_wp2
            refine bodyPost_ret (results_none rfl _ _ _) rfl ?_
            exact ⟨⟨_, rfl⟩, .inr ⟨_, imgs_sub1 HI.out (by omega) hnext.out, hJx3⟩⟩
        · obtain rfl : y = n := by omega
          have hJs' := Lib.hid hJs
          have hb' := Lib.hid hb
          have hx' := Lib.hid hx
          clear hJs hb hx
          gi_wp2
          go_roundw
          case rel => exact ⟨0 + 1, pre, by omega, by go_num, hJs'.out, hb'.out, by rw [hx'.out]; simp [imgOf]⟩
          case measure => simp only [intOf]; omega
    · gi_wp2_with fail
      gi_loopw [6, 16] (fun _ j wr => ∃ (y : Nat) (pre : List (Fin (2 ^ n))), y ≤ n ∧ j = .int .i64 y ∧ J pre wr ∧ KeptOn S W wr ∧ pre.map Fin.val = imgOf n c ++ (List.range y).map (mvN n t)) (fun _ j _ => n - (intOf j).toNat)
      case atStart => exact ⟨0, pre, Nat.zero_le _, rfl, hJs.out, HK.out, by rw [hx.out]; simp⟩
      case round =>
        obtain ⟨y, pre, hy, rfl, hJs, hb, hx⟩ := hrel
        have hnr := (hb.cell (p := ⟨Bn, 0, none⟩) hSn).trans hNW
        by_cases hlt : y < n
        · have hm := Lib.hid (HM2.out y hlt)
          have hlen : pre.length < 64 := by
            have e := congrArg List.length hx
            simp [imgOf_length] at e
            omega
          have hnext := Lib.hid (show (pre ++ [(⟨mvN n t y, mv_lt⟩ : Fin (2 ^ n))]).map Fin.val = imgOf n c ++ (List.range (y + 1)).map (mvN n t) by
            rw [List.map_append, hx, List.range_succ, List.map_append]; simp)
          have hYY := Lib.hid (fun mm => hY' pre ⟨mvN n t y, mv_lt⟩ wr mm hJs hlen)
          have hb' := Lib.hid hb
          clear hJs hx hb
          dsimp only at hYY
          generalize (⟨mvN n t y, mv_lt⟩ : Fin (2 ^ n)) = xx at hYY hnext
          generalize mvN n t y = mk at hm hYY
          gi_wp2_with (refine ⟨trivial, ?_⟩; gi_at_call 42; refine (callsIn_wide.2 (hm.out _)).mono ?_; rintro e w' ⟨rfl, mm, rfl⟩; obtain ⟨fn, tmps, assign, body, hy, hR⟩ := hYY.out mm; have hR' := Lib.hid hR; clear hR)
          refine hR'.out.mono ?_
          rintro e W3 (⟨rfl, hJ3, hk3⟩ | ⟨rfl, hJx3⟩)
          · gi_wp2
            go_roundw
            case rel => exact ⟨y + 1, _, by omega, by go_num, hJ3, (hb'.out.drewN mm).trans hk3, hnext.out⟩
            case measure => simp only [intOf]; omega
          · gi_wp2
            refine bodyPost_ret (results_none rfl _ _ _) rfl ?_
            exact ⟨⟨_, rfl⟩, .inr ⟨_, imgs_sub2 HI.out (by omega) hnext.out, hJx3⟩⟩
        · obtain rfl : y = n := by omega
          have hJs' := Lib.hid hJs
          have hb' := Lib.hid hb
          have hx' := Lib.hid hx
          clear hJs hb hx
          gi_wp2
          go_roundw
          case rel => exact ⟨1 + 1, pre, by omega, by go_num, hJs'.out, hb'.out, by rw [hx'.out]; simp [HI.out, imgOf]⟩
          case measure => simp only [intOf]; omega
    · have hfin := Lib.hid (show pre.map Fin.val = imgs n c from hx.out)
      gi_wp2
      go_end0
      exact ⟨⟨_, rfl⟩, .inl ⟨pre, hfin.out, hJs.out⟩⟩

end Go.Proofs.YtlmfmfbnbbooaabDoor.Ch
