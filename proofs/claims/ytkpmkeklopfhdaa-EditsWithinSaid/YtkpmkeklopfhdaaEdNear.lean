/-
  The statement on the lines that are near.
-/
import Derived.Test.YtkpmkeklopfhdaaEdWithin
import Derived.Test.YtkpmkeklopfhdaaShelf
namespace Go.Proofs.Ytkpmkeklopfhdaa
open Go.ChangeShapes Go.WideShapes Go.ChangeAt Go.RowKit Go.Shelf
set_option linter.unusedVariables false
set_option maxRecDepth 100000

theorem Less_anyE (x y : Int) (w : World) : Calls Try.prog 84 #[.int .i64 x, .int .i64 y] w fun e w' => e = .returned (.bool (decide (x < y))) ∧ w = w' := by
  have HN := Lib.hid (fun W => Try.cmp_isNaN_int x W)
  go_enter Try.func84, Try.ntmps84
  go_wp2_with fail
  refine (HN.out _).mono ?_
  rintro e w1 ⟨rfl, rfl⟩
  go_wp2
  go_ret
  exact ⟨rfl, rfl⟩

theorem IsSorted_anyE (g cap : Nat) (xs : List Nat) (hl : xs.length ≤ 4096) (h1 : 1 ≤ xs.length) (hs : ∀ i, i + 1 < xs.length → xs[i]?.getD 0 ≤ xs[i + 1]?.getD 0) (w : World) (hc : ∀ i, i < xs.length → w.cell? ⟨g, i, none⟩ = some (.int .i64 ((xs[i]?.getD 0 : Nat) : Int))) :
    Calls Try.prog 60 #[.slice (some ⟨g, 0, none⟩) xs.length cap] w fun e w' => e = .returned (.bool true) ∧ ∃ m, w' = w.drewN m := by
  have HL := Lib.hid (fun x y w => Less_anyE x y w)
  obtain ⟨K, hK⟩ : ∃ K, xs.length = K := ⟨_, rfl⟩
  rw [hK] at hl h1 hs hc ⊢
  have HS := Lib.hid hs
  have HC := Lib.hid hc
  clear hs hc hK
  go_enter Try.func60, Try.ntmps60
  go_wp2
  go_loopw [3] (fun v wr => ∃ i m : Nat, i < K ∧ v = .int .i64 i ∧ wr = w.drewN m) (fun v _ => (intOf v).toNat)
  case atStart => exact ⟨K - 1, 0, by omega, by go_num, rfl⟩
  case round =>
    obtain ⟨i, m, hi, rfl, rfl⟩ := hrel
    by_cases h0 : 0 < i
    · obtain ⟨j, hij⟩ : ∃ j, i = j + 1 := ⟨i - 1, by omega⟩
      have c1 := HC.out i hi
      have hj : j < K := by omega
      have c2 := HC.out j hj
      have hle := HS.out j (by omega)
      rw [← hij] at hle
      have hlt : (decide ((((xs[i]?.getD 0 : Nat) : Int)) < ((xs[j]?.getD 0 : Nat) : Int))) = false := decide_eq_false (by omega)
      generalize xs[i]?.getD 0 = a at c1 hle hlt
      generalize xs[j]?.getD 0 = b at c2 hle hlt
      have e1 : (i : Int) - 1 = (j : Int) := by omega
      obtain ⟨W, hW⟩ : ∃ W, w.drewN m = W := ⟨_, rfl⟩
      have c1' : W.cell? ⟨g, i, none⟩ = some (.int .i64 (a : Nat)) := by rw [← hW]; exact c1
      have c2' : W.cell? ⟨g, j, none⟩ = some (.int .i64 (b : Nat)) := by rw [← hW]; exact c2
      rw [hW]
      have HW := Lib.hid hW
      clear c1 c2 hW
      have hw : IntKind.i64.wrap (j : Int) = j := IntWalk.i64_in _ (by omega)
      have HIJ := Lib.hid hij
      clear hij h0
      have h0 : 0 < i := by have := HIJ.out; omega
      have HL2 := Lib.hid (HL.out a b)
      rw [hlt] at HL2
      clear hlt
      go_wp2
      go_quiet ((go_at_call 84; exact Calls.quiet_of_same ((HL2.out _).mono fun e w' h => ⟨h.1, h.2.symm⟩)))
      go_wp2
      go_roundw
      case rel => exact ⟨j, m + nq, hj, by go_num, by rw [← HW.out, World.drewN_drewN]⟩
      case measure => have := HIJ.out; simp only [intOf]; omega
    · obtain rfl : i = 0 := by omega
      go_wp2
      go_ret
      exact ⟨rfl, m, rfl⟩


theorem IsSorted_zeroE (ao : Option Addr) (cap : Nat) (w : World) : Calls Try.prog 60 #[.slice ao 0 cap] w fun e w' => e = .returned (.bool true) ∧ ∃ m, w' = w.drewN m := by
  go_enter Try.func60, Try.ntmps60
  go_wp2
  go_loopw [3] (fun v wr => v = .int .i64 (-1) ∧ wr = w) (fun v _ => 0)
  case atStart => exact ⟨by go_num, rfl⟩
  case round =>
    obtain ⟨rfl, rfl⟩ := hrel
    go_wp2
    go_ret
    exact ⟨rfl, 0, rfl⟩

/-- A row of one's own, read. -/
theorem own_cells {W : World} {lo : Nat} {v : Value} {xs : List Nat} (h : W.ownsRow lo 3 1 v xs.length (ints xs)) : (v = .slice none 0 0 ∧ xs = []) ∨ ∃ g cap, v = .slice (some ⟨g, 0, none⟩) xs.length cap ∧ ∀ i, i < xs.length → W.cell? ⟨g, i, none⟩ = some (.int .i64 ((xs[i]?.getD 0 : Nat) : Int)) := by
  have h' := h
  obtain ⟨h0, h1 | ⟨g, cap, cur, hv, hg, hh, h2⟩⟩ := h
  · exact Or.inl ⟨h1.1, List.eq_nil_of_length_eq_zero h1.2⟩
  · refine Or.inr ⟨g, cap, hv, fun i hi => ?_⟩
    subst hv
    rw [h'.cellAt i (by omega)]
    exact ints_at hi
theorem sorted_own {W : World} {lo : Nat} {v : Value} {xs : List Nat} (h : W.ownsRow lo 3 1 v xs.length (ints xs)) (hl : xs.length ≤ 4096) (hs : ∀ i, i + 1 < xs.length → xs[i]?.getD 0 ≤ xs[i + 1]?.getD 0) :
    Calls Try.prog 60 #[v] W fun e w' => e = .returned (.bool true) ∧ ∃ m, w' = W.drewN m := by
  rcases own_cells h with ⟨rfl, rfl⟩ | ⟨g, cap, rfl, hc⟩
  · exact IsSorted_zeroE none 0 W
  · rcases Nat.eq_zero_or_pos xs.length with h0 | h0
    · rw [h0]; exact IsSorted_zeroE _ _ W
    · exact IsSorted_anyE g cap xs hl h0 hs W hc
theorem contains_own {W : World} {lo : Nat} {v : Value} {xs : List Nat} (h : W.ownsRow lo 3 1 v xs.length (ints xs)) (hl : xs.length ≤ 4096) (x : Nat) :
    Calls Try.prog 61 #[v, .int .i64 (x : Int)] W fun e w' => e = .returned (.bool (xs.contains x)) ∧ W = w' := by
  rcases own_cells h with ⟨rfl, rfl⟩ | ⟨g, cap, rfl, hc⟩
  · exact (Try.slices_Contains_int_empty none 0 x W).mono fun e w' h => ⟨by rw [h.1]; rfl, h.2.symm⟩
  · have hz : (xs.map (fun n : Nat => (n : Int))).length = xs.length := by simp
    refine (Try.slices_Contains_int g 0 xs.length cap (xs.map (fun n : Nat => (n : Int))) x W (by omega) (by omega) (fun j hj => ?_)).mono fun e w' h => ⟨?_, h.2.symm⟩
    · rw [hz] at hj
      rw [Nat.zero_add, hc j hj]
      simp [List.getD_eq_getElem?_getD, hj]
    · rw [h.1, List.take_of_length_le (by omega)]
      congr 2
      rw [Bool.eq_iff_iff, List.contains_iff_mem, List.contains_iff_mem, List.mem_map]
      constructor
      · rintro ⟨y, hy, e⟩
        have : y = x := by omega
        rw [← this]; exact hy
      · intro hx; exact ⟨x, hx, rfl⟩

theorem strs_own {W : World} {lo : Nat} {v : Value} {ss : List ByteArray} {n : Nat} (hn : n = ss.length) (h : W.ownsRow lo 9 1 v n (ss.map Value.string)) : StrsV W v ss := by
  subst hn
  have h' := h
  obtain ⟨h0, h1 | ⟨g, cap, cur, hv, hg, hh, h2⟩⟩ := h
  · exact ⟨none, 0, by rw [h1.1, h1.2], by omega, fun h => by omega⟩
  · refine ⟨_, cap, hv, h2.1, fun _ => ⟨g, 0, rfl, fun i hi => ?_⟩⟩
    subst hv
    rw [Nat.zero_add, h'.cellAt i (by omega)]
    simp [hi]
theorem clone_strs {W : World} {v : Value} {ss : List ByteArray} (h : StrsV W v ss) (hl : ss.length ≤ 4096) : Calls Try.prog 59 #[v] W fun e w' => ∃ v', e = .returned v' ∧ StrsV w' v' ss ∧ Below W.heap.size W w' := by
  obtain ⟨ao, cap, rfl, hlc, hd⟩ := h
  rcases ao with _ | a
  · refine (Try.slices_Clone_string_nil ss.length cap W).mono fun e w' h => ⟨_, h.1, ?_, by rw [h.2]; exact Below.refl _ _⟩
    have : ss.length = 0 := by
      rcases Nat.eq_zero_or_pos ss.length with h0 | h0
      · exact h0
      · obtain ⟨b, off, e, _⟩ := hd h0; cases e
    exact ⟨none, 0, by rw [this], by omega, fun h => by omega⟩
  · rcases Nat.eq_zero_or_pos ss.length with h0 | h0
    · rw [h0]
      refine (Try.slices_Clone_string_zero a cap W).mono fun e w' ⟨v', h1, h2, _, h3⟩ => ⟨v', h1, ?_, h3⟩
      have : ss = [] := List.eq_nil_of_length_eq_zero h0
      subst this
      exact strs_own rfl h2
    · obtain ⟨b, off, e, hc⟩ := hd h0
      cases e
      refine (Try.slices_Clone_string b off ss.length cap ss W (Nat.le_refl _) (by omega) (fun j hj => ?_)).mono fun e w' ⟨v', h1, h2, _, h3⟩ => ⟨v', h1, ?_, h3⟩
      · rw [hc j hj, List.getD_eq_getElem?_getD]; rfl
      · rw [List.take_of_length_le (Nat.le_refl _)] at h2
        exact strs_own rfl h2

set_option maxHeartbeats 1000000 in
theorem RList_any (xs : List ByteArray) (hl : xs.length ≤ maxLen) (v : Value) (w : World) (hv : StrsV w v xs) :
    Calls Try.prog 50 #[v] w fun e w' => e = .returned (.bool (xs.all lineB && decide (xs.length ≤ 20))) ∧ w = w' := by
  obtain ⟨ao, cap, rfl, hlc, hd⟩ := hv
  have HF := Lib.hid (fun x w => RLine_any x w)
  have HD := Lib.hid hd
  clear hd
  unfold maxLen at hl
  go_enter Try.func50, Try.ntmps50
  go_wp2
  go_loopw [4, 7] (fun _ i wr => ∃ k : Nat, k ≤ xs.length ∧ i = .int .i64 k ∧ (xs.take k).all lineB = true ∧ w = wr) (fun _ i _ => xs.length - (intOf i).toNat)
  case atStart => exact ⟨0, Nat.zero_le _, rfl, by simp, rfl⟩
  case round =>
    obtain ⟨k, hk, rfl, ha, rfl⟩ := hrel
    by_cases hlk : k < xs.length
    · obtain ⟨b, off, rfl, hdd⟩ := HD.out (by omega)
      have ck := hdd k hlk
      have hge : xs[k]?.getD ⟨#[]⟩ = xs[k] := by rw [List.getElem?_eq_getElem hlk]; rfl
      rw [hge] at ck
      have HT := Lib.hid (fun hp => all_take_true (p := lineB) hlk hp ha)
      have HN := Lib.hid (fun hp => all_take_false (p := lineB) hlk hp)
      clear hge hdd ha
      generalize xs[k] = x at ck HT HN
      go_wp2_with fail
      refine (HF.out _ _).mono ?_
      rintro e w1 ⟨rfl, rfl⟩
      cases hp : lineB x
      · have HP := Lib.hid (HN.out hp)
        clear HN HT hp
        go_wp2
        go_ret
        exact ⟨ret_bool (by rw [HP.out]; rfl), rfl⟩
      · have HP := Lib.hid (HT.out hp)
        clear HN HT hp
        go_wp2
        go_roundw
        case rel => exact ⟨k + 1, by omega, by go_num, HP.out, trivial⟩
        case measure => simp only [intOf]; omega
    · have HE := Lib.hid (show xs.all lineB = true by rwa [List.take_of_length_le (by omega)] at ha)
      have HX := Lib.hid (show decide ((xs.length : Int) ≤ 20) = decide (xs.length ≤ 20) by by_cases h : xs.length ≤ 20 <;> simp [h] <;> omega)
      go_wp2
      go_ret
      exact ⟨ret_bool (by rw [HE.out, ← HX.out]; rfl), rfl⟩

/-! ### the numbers of the lines -/
theorem near_sorted (a : ByteArray) (pi po ps : Nat) (most : Int) (ss : List ByteArray) (k i : Nat) (h : i + 1 < (nearL a pi po ps most ss k).length) : (nearL a pi po ps most ss k)[i]?.getD 0 ≤ (nearL a pi po ps most ss k)[i + 1]?.getD 0 := by
  have hp : (nearL a pi po ps most ss k).Pairwise (· < ·) := List.Pairwise.filter _ List.pairwise_lt_range
  have := (List.pairwise_iff_getElem.1 hp) i (i + 1) (by omega) h (by omega)
  rw [List.getElem?_eq_getElem h, List.getElem?_eq_getElem (by omega)]
  simp only [Option.getD_some]
  omega
theorem near_has {a : ByteArray} {pi po ps : Nat} {most : Int} {ss : List ByteArray} {k i : Nat} (h : i < k) : (nearL a pi po ps most ss k).contains i = nearB a pi po ps most ss i := by
  unfold nearL
  rw [Bool.eq_iff_iff, List.contains_iff_mem, List.mem_filter, List.mem_range]
  exact ⟨fun h => h.2, fun h2 => ⟨h, h2⟩⟩
theorem near_more (a : ByteArray) (pi po ps : Nat) (most : Int) (ss : List ByteArray) (k : Nat) : (nearL a pi po ps most ss k).length ≤ (nearL a pi po ps (most + 1) ss k).length := by
  unfold nearL
  rw [← List.countP_eq_length_filter, ← List.countP_eq_length_filter]
  refine List.countP_mono_left (fun x _ h => ?_)
  have := of_decide_eq_true h
  exact decide_eq_true (by omega)
end Go.Proofs.Ytkpmkeklopfhdaa
