/-
  The statement on Solve.
-/
import Derived.Test.YtlmfmfbnbbooaaaWhSolve2
namespace Go.Proofs.Ytlmfmfbnbbooaaa
open Go.ChangeShapes Go.WideShapes Go.ChangeAt Go.RowKit
set_option linter.unusedVariables false
set_option maxRecDepth 100000

theorem chB_all {m : Nat} {xs : List Int} (h : chordsB m xs = true) : ∃ l : List Nat, xs = natI l ∧ ∀ x ∈ l, x < 2 ^ m := by
  unfold chordsB at h
  rw [List.all_eq_true] at h
  have h1 : ∀ x ∈ xs, 0 ≤ x ∧ x < ((2 ^ m : Nat) : Int) := fun x hx => of_decide_eq_true (h x hx)
  obtain ⟨l, rfl⟩ := natI_ex fun x hx => (h1 x hx).1
  refine ⟨l, rfl, fun x hx => ?_⟩
  have := (h1 (x : Int) (List.mem_map.2 ⟨x, hx, rfl⟩)).2
  omega
/-- What Solve takes. -/
def solB (n t : Int) (xs : List Int) : Bool := (circB n && chordsB n.toNat [t]) && decide (xs.length ≤ 10) && chordsB n.toNat xs
theorem sol_take (n t : Int) (xs : List Int) : solB n t (xs.take 19) = solB n t xs := by
  unfold solB
  by_cases h : xs.length ≤ 19
  · rw [List.take_of_length_le h]
  · rw [decide_eq_false (show ¬ (xs.take 19).length ≤ 10 by rw [List.length_take]; omega), decide_eq_false (show ¬ xs.length ≤ 10 by omega), Bool.and_false, Bool.false_and, Bool.false_and]

set_option maxHeartbeats 2000000 in
theorem RList_any (m : Nat) (hm : Circ m) (xs : List Int) (v : Value) (w : World) (hl : xs.length ≤ maxLen) (hv : IntsV w v xs) :
    Calls Try.prog 26 #[.int .i64 (m : Int), v] w fun e w' => e = .returned (.bool (decide (xs.length ≤ 10) && chordsB m xs)) ∧ w = w' := by
  have HV := Lib.hid (fun c W => by have := RValid_any (m : Int) c W; rw [circB_nat hm, Bool.true_and, Int.toNat_natCast] at this; exact this)
  have HQ := Lib.hid (show chordsB m xs = xs.all (fun c => chordsB m [c]) by unfold chordsB; simp)
  obtain ⟨ao, cap, rfl, hcap, hc⟩ := hv
  unfold maxLen at hl
  have HCl := Lib.hid hc
  clear hc hm
  go_enter Try.func26, Try.ntmps26
  go_wp2_with fail
  go_loopw [9] (fun i wr => ∃ k : Nat, k ≤ xs.length ∧ i = .int .i64 (k : Int) ∧ (∀ x ∈ xs.take k, chordsB m [x] = true) ∧ w = wr) (fun i _ => xs.length - (intOf i).toNat)
  case atStart => exact ⟨0, Nat.zero_le _, rfl, by simp, rfl⟩
  case round =>
    obtain ⟨k, hk, rfl, ha, rfl⟩ := hrel
    have HA := Lib.hid ha
    clear ha
    by_cases hlt : k < xs.length
    · obtain ⟨b, off, rfl, hd⟩ := HCl.out (by omega)
      have e1 := hd k hlt
      have hge : xs[k]?.getD 0 = xs[k] := by rw [List.getElem?_eq_getElem hlt]; rfl
      have HM := Lib.hid (show xs[k] ∈ xs from List.getElem_mem hlt)
      have HTk := Lib.hid (show xs.take (k + 1) = xs.take k ++ [xs[k]] from List.take_succ_eq_append_getElem hlt)
      rw [hge] at e1
      clear hge hd
      generalize xs[k] = x at e1 HM HTk
      have HVx := Lib.hid (HV.out x)
      cases hx : chordsB m [x]
      · rw [hx] at HVx
        have HN := Lib.hid (show (decide (xs.length ≤ 10) && chordsB m xs) = false by
          rw [HQ.out, show xs.all (fun c => chordsB m [c]) = false from List.all_eq_false.2 ⟨x, HM.out, by rw [hx]; simp⟩, Bool.and_false])
        clear hx
        go_wp2_with fail
        refine (HVx.out _).mono ?_
        rintro e w1 ⟨rfl, rfl⟩
        go_wp2
        go_ret
        exact ⟨ret_bool HN.out.symm, rfl⟩
      · rw [hx] at HVx
        have HX := Lib.hid hx
        clear hx
        go_wp2_with fail
        refine (HVx.out _).mono ?_
        rintro e w1 ⟨rfl, rfl⟩
        go_wp2
        go_roundw
        case rel =>
          refine ⟨k + 1, by omega, by go_num, fun y hy => ?_, trivial⟩
          rw [HTk.out, List.mem_append] at hy
          rcases hy with hy | hy
          · exact HA.out y hy
          · rw [List.mem_singleton] at hy; rw [hy]; exact HX.out
        case measure => simp only [intOf]; omega
    · obtain rfl : k = xs.length := by omega
      have HN := Lib.hid (show chordsB m xs = true by rw [HQ.out, List.all_eq_true]; exact fun x hx => HA.out x (by rw [List.take_length]; exact hx))
      go_wp2
      go_ret
      refine ⟨ret_bool ?_, rfl⟩
      rw [HN.out, Bool.and_true]
      first | rfl | (rw [decide_eq_decide]; omega) | (by_cases h : xs.length ≤ 10 <;> simp [h] <;> omega)

set_option maxHeartbeats 2000000 in
theorem Solve_bad (n t : Int) (xs : List Int) (hl : xs.length ≤ maxLen) (hb : solB n t xs = false) (v : Value) (w : World) (hv : IntsV w v xs) :
    Calls Try.prog 24 #[.int .i64 n, .int .i64 t, v] w fun e w' => e = .returned (.tuple #[.slice none 0 0, .int .i64 2]) ∧ Below w.heap.size w w' := by
  have HFo := Lib.hid (fun W => fieldOf_any n W)
  have HH1 := Lib.hid (fun W v (h : IntsV W v [t]) => hasChords_any n [t] v W (by simp [maxLen]) h)
  have HH2 := Lib.hid (fun W (h : IntsV W v xs) => hasChords_any n xs v W hl h)
  have H := Lib.hid hv
  obtain ⟨ao, cap, rfl, hcap, _⟩ := hv
  unfold solB at hb
  unfold fV at *
  unfold maxLen at hl
  cases h1 : (circB n && chordsB n.toNat [t])
  · rw [h1] at HH1
    clear hb h1
    go_enter Try.func24, Try.ntmps24
    go_wp2_with fail
    refine (HFo.out _).mono ?_
    rintro e w1 ⟨rfl, b1⟩
    obtain ⟨G, hG⟩ : ∃ G, w1.heap.size = G := ⟨_, rfl⟩
    have HF1 := Lib.hid (FAt.next b1 (fN n) (fQ n) (fW n) G hG)
    clear b1
    have hs1 : (w1.alloc (.cells #[.int .i64 ((fN n : Nat) : Int), .int .i64 ((fQ n : Nat) : Int), .int .i64 ((fW n : Nat) : Int)] 60)).heap.size = G + 1 := by rw [World.size_alloc, hG]
    have LA := Lib.hid (IntsV.oneW hs1 t)
    have HF2 := Lib.hid (HF1.out.take (.cells #[.int .i64 t] 3))
    clear hs1
    go_wp2_with fail
    refine (HH1.out _ _ LA.out).mono ?_
    rintro e w2 ⟨rfl, b2⟩
    have HF3 := Lib.hid (HF2.out.later b2)
    clear b2 HF1 HF2 LA
    go_wp2
    go_ret2
    exact ⟨rfl, HF3.out.hb⟩
  · rw [h1] at HH1
    rw [h1, Bool.true_and] at hb
    have hcb : circB n = true := by cases h : circB n <;> simp_all
    rw [hcb, Bool.true_and] at HH2
    clear h1 hcb
    by_cases h10 : xs.length ≤ 10
    · rw [decide_eq_true h10, Bool.true_and] at hb
      rw [hb] at HH2
      clear hb
      go_enter Try.func24, Try.ntmps24
      go_wp2_with fail
      refine (HFo.out _).mono ?_
      rintro e w1 ⟨rfl, b1⟩
      obtain ⟨G, hG⟩ : ∃ G, w1.heap.size = G := ⟨_, rfl⟩
      have HF1 := Lib.hid (FAt.next b1 (fN n) (fQ n) (fW n) G hG)
      clear b1
      have hs1 : (w1.alloc (.cells #[.int .i64 ((fN n : Nat) : Int), .int .i64 ((fQ n : Nat) : Int), .int .i64 ((fW n : Nat) : Int)] 60)).heap.size = G + 1 := by rw [World.size_alloc, hG]
      have LA := Lib.hid (IntsV.oneW hs1 t)
      have HF2 := Lib.hid (HF1.out.take (.cells #[.int .i64 t] 3))
      clear hs1
      go_wp2_with fail
      refine (HH1.out _ _ LA.out).mono ?_
      rintro e w2 ⟨rfl, b2⟩
      have HF3 := Lib.hid (HF2.out.later b2)
      obtain ⟨k0, k1, k2⟩ := HF3.out.cell
      clear b2 HF1 HF2 LA
      go_wp2_with fail
      refine (HH2.out _ (H.out.later HF3.out.hb)).mono ?_
      rintro e w3 ⟨rfl, b3⟩
      have HF4 := Lib.hid (HF3.out.later b3)
      clear b3 k0 k1 k2 HF3
      go_wp2
      go_ret2
      exact ⟨rfl, HF4.out.hb⟩
    · clear hb
      go_enter Try.func24, Try.ntmps24
      go_wp2_with fail
      refine (HFo.out _).mono ?_
      rintro e w1 ⟨rfl, b1⟩
      obtain ⟨G, hG⟩ : ∃ G, w1.heap.size = G := ⟨_, rfl⟩
      have HF1 := Lib.hid (FAt.next b1 (fN n) (fQ n) (fW n) G hG)
      clear b1
      have hs1 : (w1.alloc (.cells #[.int .i64 ((fN n : Nat) : Int), .int .i64 ((fQ n : Nat) : Int), .int .i64 ((fW n : Nat) : Int)] 60)).heap.size = G + 1 := by rw [World.size_alloc, hG]
      have LA := Lib.hid (IntsV.oneW hs1 t)
      have HF2 := Lib.hid (HF1.out.take (.cells #[.int .i64 t] 3))
      clear hs1
      go_wp2_with fail
      refine (HH1.out _ _ LA.out).mono ?_
      rintro e w2 ⟨rfl, b2⟩
      have HF3 := Lib.hid (HF2.out.later b2)
      clear b2 HF1 HF2 LA
      go_wp2
      go_ret2
      exact ⟨rfl, HF3.out.hb⟩

/-- What Solve finds. -/
def solE (o : Option (List Nat)) : Int := if o.isSome then 0 else 4
set_option maxHeartbeats 2000000 in
theorem Solve_ok (n : Nat) (hc : Circ n) (T : Nat) (hT : T < 2 ^ n) (l : List Nat) (hl : l.length ≤ 10) (hb : ∀ x ∈ l, x < 2 ^ n) (v : Value) (w : World) (hv : IntsV w v (natI l)) :
    Calls Try.prog 24 #[.int .i64 (n : Int), .int .i64 (T : Int), v] w fun e w' => ∃ v', e = .returned (.tuple #[v', .int .i64 (solE (cv l 0 T))]) ∧ IntsV w' v' (natI ((cv l 0 T).getD [])) ∧ Below w.heap.size w w' := by
  have h16 : 2 ^ n ≤ 2 ^ 16 := Nat.pow_le_pow_right (by omega) (Nat.le_of_lt_succ hc.2)
  have HFo := Lib.hid (fun W => by have := fieldOf_any (n : Int) W; rwa [(fN_nat hc).1, (fN_nat hc).2.1, (fN_nat hc).2.2] at this)
  have hch : chordsB n (natI l) = true := by
    unfold chordsB
    rw [List.all_eq_true]
    intro x hx
    obtain ⟨y, hy, rfl⟩ := List.mem_map.1 hx
    have := hb y hy
    exact decide_eq_true ⟨by omega, by omega⟩
  have HH1 := Lib.hid (show ∀ W v, IntsV W v [(T : Int)] → Calls Try.prog 77 #[fV n (qN n) (wN n), v] W (fun e w' => e = .returned (.bool true) ∧ Below W.heap.size W w') from fun W v h => by have := hasChords_any (n : Int) [(T : Int)] v W (by simp [maxLen]) h; rw [(fN_nat hc).1, (fN_nat hc).2.1, (fN_nat hc).2.2, circB_nat hc, Int.toNat_natCast, chB_nat hT] at this; exact this)
  have HH2 := Lib.hid (show ∀ W, IntsV W v (natI l) → Calls Try.prog 77 #[fV n (qN n) (wN n), v] W (fun e w' => e = .returned (.bool true) ∧ Below W.heap.size W w') from fun W h => by have := hasChords_any (n : Int) (natI l) v W (by rw [natI_len]; unfold maxLen; omega) h; rw [(fN_nat hc).1, (fN_nat hc).2.1, (fN_nat hc).2.2, circB_nat hc, Int.toNat_natCast, hch] at this; exact this)
  have HCo := Lib.hid (fun W (h : IntsV W v (natI l)) => cover_any l hl (fun x hx => Nat.lt_of_lt_of_le (hb x hx) h16) l.length 0 T v W (by omega) (by omega) (by omega) h)
  have H := Lib.hid hv
  obtain ⟨ao, cap, rfl, hcap, _⟩ := hv
  rw [natI_len] at *
  generalize hLl : l.length = L at *
  clear hb hch hc h16 hLl
  unfold fV at *
  cases ho : cv l 0 T with
  | none =>
    rw [ho] at HCo
    clear ho
    go_enter Try.func24, Try.ntmps24
    go_wp2_with fail
    refine (HFo.out _).mono ?_
    rintro e w1 ⟨rfl, b1⟩
    obtain ⟨G, hG⟩ : ∃ G, w1.heap.size = G := ⟨_, rfl⟩
    have HF1 := Lib.hid (FAt.next b1 n (qN n) (wN n) G hG)
    clear b1
    have hs1 : (w1.alloc (.cells #[.int .i64 (n : Int), .int .i64 ((qN n : Nat) : Int), .int .i64 ((wN n : Nat) : Int)] 60)).heap.size = G + 1 := by rw [World.size_alloc, hG]
    have LA := Lib.hid (IntsV.oneW hs1 (T : Int))
    have HF2 := Lib.hid (HF1.out.take (.cells #[.int .i64 (T : Int)] 3))
    clear hs1
    go_wp2_with fail
    refine (HH1.out _ _ LA.out).mono ?_
    rintro e w2 ⟨rfl, b2⟩
    have HF3 := Lib.hid (HF2.out.later b2)
    obtain ⟨k0, k1, k2⟩ := HF3.out.cell
    clear b2 HF1 HF2 LA
    go_wp2_with fail
    refine (HH2.out _ (H.out.later HF3.out.hb)).mono ?_
    rintro e w3 ⟨rfl, b3⟩
    have HF4 := Lib.hid (HF3.out.later b3)
    clear b3 k0 k1 k2 HF3
    go_wp2_with fail
    refine (HCo.out _ (H.out.later HF4.out.hb)).mono ?_
    rintro e w4 ⟨v4, rfl, j4, n4, b4⟩
    have HF5 := Lib.hid (HF4.out.later b4)
    clear b4 j4 n4 HF4
    go_wp2
    go_ret2
    exact ⟨_, rfl, IntsV.nilW _, HF5.out.hb⟩
  | some p =>
    rw [ho] at HCo
    clear ho
    go_enter Try.func24, Try.ntmps24
    go_wp2_with fail
    refine (HFo.out _).mono ?_
    rintro e w1 ⟨rfl, b1⟩
    obtain ⟨G, hG⟩ : ∃ G, w1.heap.size = G := ⟨_, rfl⟩
    have HF1 := Lib.hid (FAt.next b1 n (qN n) (wN n) G hG)
    clear b1
    have hs1 : (w1.alloc (.cells #[.int .i64 (n : Int), .int .i64 ((qN n : Nat) : Int), .int .i64 ((wN n : Nat) : Int)] 60)).heap.size = G + 1 := by rw [World.size_alloc, hG]
    have LA := Lib.hid (IntsV.oneW hs1 (T : Int))
    have HF2 := Lib.hid (HF1.out.take (.cells #[.int .i64 (T : Int)] 3))
    clear hs1
    go_wp2_with fail
    refine (HH1.out _ _ LA.out).mono ?_
    rintro e w2 ⟨rfl, b2⟩
    have HF3 := Lib.hid (HF2.out.later b2)
    obtain ⟨k0, k1, k2⟩ := HF3.out.cell
    clear b2 HF1 HF2 LA
    go_wp2_with fail
    refine (HH2.out _ (H.out.later HF3.out.hb)).mono ?_
    rintro e w3 ⟨rfl, b3⟩
    have HF4 := Lib.hid (HF3.out.later b3)
    clear b3 k0 k1 k2 HF3
    go_wp2_with fail
    refine (HCo.out _ (H.out.later HF4.out.hb)).mono ?_
    rintro e w4 ⟨v4, rfl, j4, n4, b4⟩
    have HF5 := Lib.hid (HF4.out.later b4)
    have J4 := Lib.hid (show IntsV w4 v4 (natI p) from j4)
    clear b4 j4 n4 HF4
    go_wp2
    go_ret2
    exact ⟨_, rfl, J4.out, HF5.out.hb⟩

set_option maxHeartbeats 4000000 in
theorem WheelsSolves_walk (n t : Int) (xs : List Int) (v : Value) (w : World) (_wn : (Lit.int .i64 n).wf = true) (_wt : (Lit.int .i64 t).wf = true) (hl : xs.length ≤ maxLen) (h : IntsV w v xs) :
    Calls Try.prog 4 #[.int .i64 n, .int .i64 t, v] w fun e w' => e = .returned (.bool true) ∧ Below w.heap.size w w' := by
  have HAw := Lib.hid (fun W => wawake_any W)
  have HLi := Lib.hid (fun W hW => wlist_any xs v W hl hW)
  have HV := Lib.hid (fun W => RValid_any n t W)
  have H := Lib.hid h
  cases hs : solB n t xs
  · have HS := Lib.hid (fun a W ha => Solve_bad n t (xs.take 19) take19 (by rw [sol_take]; exact hs) a W ha)
    cases h1 : (circB n && chordsB n.toNat [t])
    · rw [h1] at HV
      obtain ⟨ao, cap, rfl, _⟩ := h
      clear hs h1 hl
      go_enter Try.func4, Try.ntmps4
      go_wp2_with fail
      refine (HLi.out _ H.out).mono ?_
      rintro e w1 ⟨v1, rfl, i1, b1⟩
      have B1 := Lib.hid b1
      have I1 := Lib.hid i1
      clear b1 i1
      go_wp2_with fail
      refine (HS.out _ _ I1.out).mono ?_
      rintro e w2 ⟨rfl, b2⟩
      have B2 := Lib.hid (below_nx B1.out b2)
      clear b2
      go_wp2_with fail
      refine (HV.out _).mono ?_
      rintro e w3 ⟨rfl, rfl⟩
      go_wp2_with fail
      refine (HAw.out _).mono ?_
      rintro e w5 ⟨rfl, b5⟩
      go_wp2
      go_ret
      exact ⟨rfl, below_nx B2.out b5⟩
    · rw [h1] at HV
      obtain ⟨m, k, rfl, rfl, hm, hk⟩ := goodC h1
      have HR := Lib.hid (fun W hW => RList_any m hm xs v W hl hW)
      unfold solB at hs
      rw [h1, Bool.true_and, Int.toNat_natCast] at hs
      rw [hs] at HR
      obtain ⟨ao, cap, rfl, _⟩ := h
      clear hs h1 hl hm hk
      go_enter Try.func4, Try.ntmps4
      go_wp2_with fail
      refine (HLi.out _ H.out).mono ?_
      rintro e w1 ⟨v1, rfl, i1, b1⟩
      have B1 := Lib.hid b1
      have I1 := Lib.hid i1
      clear b1 i1
      go_wp2_with fail
      refine (HS.out _ _ I1.out).mono ?_
      rintro e w2 ⟨rfl, b2⟩
      have B2 := Lib.hid (below_nx B1.out b2)
      clear b2
      go_wp2_with fail
      refine (HV.out _).mono ?_
      rintro e w3 ⟨rfl, rfl⟩
      go_wp2_with fail
      refine (HR.out _ (H.out.later B2.out)).mono ?_
      rintro e w3 ⟨rfl, rfl⟩
      go_wp2_with fail
      refine (HAw.out _).mono ?_
      rintro e w5 ⟨rfl, b5⟩
      go_wp2
      go_ret
      exact ⟨rfl, below_nx B2.out b5⟩
  · have hs2 := hs
    unfold solB at hs2
    rw [Bool.and_eq_true, Bool.and_eq_true] at hs2
    obtain ⟨⟨h1, h2⟩, h3⟩ := hs2
    rw [h1] at HV
    obtain ⟨m, k, rfl, rfl, hm, hk⟩ := goodC h1
    rw [Int.toNat_natCast] at h3
    obtain ⟨l, rfl, hb⟩ := chB_all h3
    have hl10 : l.length ≤ 10 := by have := of_decide_eq_true h2; rw [natI_len] at this; exact this
    have h16 : 2 ^ m ≤ 2 ^ 16 := Nat.pow_le_pow_right (by omega) (Nat.le_of_lt_succ hm.2)
    have HR := Lib.hid (fun W hW => RList_any m hm (natI l) v W hl hW)
    rw [h2, h3] at HR
    rw [show (natI l).take 19 = natI l from List.take_of_length_le (by rw [natI_len]; omega)] at HLi
    have HS := Lib.hid (fun a W ha => Solve_ok m hm k hk l hl10 hb a W ha)
    have HRS := Lib.hid (fun W hW => RSolve_any l hl10 (fun x hx => Nat.lt_of_lt_of_le (hb x hx) h16) (m : Int) k (by omega) v W hW)
    have hcl : ((cv l 0 k).getD []).length ≤ 10 := by
      cases hc : cv l 0 k with
      | none => simp
      | some p => exact Nat.le_trans (cv_len hc) hl10
    have HEq := Lib.hid (fun a b W ha hb => by have := Equal_any (natI ((cv l 0 k).getD [])) (natI ((cv l 0 k).getD [])) a b W (by rw [natI_len]; unfold maxLen; omega) (by rw [natI_len]; unfold maxLen; omega) ha hb; rwa [show (natI ((cv l 0 k).getD []) == natI ((cv l 0 k).getD [])) = true from beq_self_eq_true _] at this)
    have HE0 := Lib.hid (show (if (cv l 0 k).isSome then (0 : Int) else 4) = solE (cv l 0 k) from rfl)
    rw [HE0.out] at HRS
    obtain ⟨E, hE⟩ : ∃ E, solE (cv l 0 k) = E := ⟨_, rfl⟩
    rw [hE] at HRS HS
    have hq : (E == E) = true := beq_self_eq_true _
    generalize natI ((cv l 0 k).getD []) = out at *
    obtain ⟨ao, cap, rfl, _⟩ := h
    clear hs h1 h2 h3 hl hm hk hb hl10 h16 hcl hE HE0
    go_enter Try.func4, Try.ntmps4
    go_wp2_with fail
    refine (HLi.out _ H.out).mono ?_
    rintro e w1 ⟨v1, rfl, i1, b1⟩
    have B1 := Lib.hid b1
    have I1 := Lib.hid i1
    clear b1 i1
    go_wp2_with fail
    refine (HS.out _ _ I1.out).mono ?_
    rintro e w2 ⟨v2, rfl, i2, b2⟩
    have B2 := Lib.hid (below_nx B1.out b2)
    have I2 := Lib.hid i2
    clear b2 i2
    go_wp2_with fail
    refine (HV.out _).mono ?_
    rintro e w3 ⟨rfl, rfl⟩
    go_wp2_with fail
    refine (HR.out _ (H.out.later B2.out)).mono ?_
    rintro e w3 ⟨rfl, rfl⟩
    go_wp2_with fail
    refine (HRS.out _ (H.out.later B2.out)).mono ?_
    rintro e w4 ⟨v4, rfl, i4, b4⟩
    have B4 := Lib.hid (below_nx B2.out b4)
    have I4 := Lib.hid i4
    have K2 := Lib.hid (I2.out.later b4)
    clear b4 i4
    go_wp2_with fail
    refine (HEq.out _ _ _ K2.out I4.out).mono ?_
    rintro e w5 ⟨rfl, q, rfl⟩
    have B5 := Lib.hid (bl_drewN B4.out q)
    generalize w4.drewN q = w5 at *
    go_wp2_with fail
    refine (HAw.out _).mono ?_
    rintro e w6 ⟨rfl, b6⟩
    go_wp2
    go_ret
    exact ⟨rfl, below_nx B5.out b6⟩
end Go.Proofs.Ytlmfmfbnbbooaaa
