/-
  Contracts of the small functions of package rows and of its reference: whether a slice is a row; its steps.
-/
import Derived.Test.YtdfagnjdconkcaaRows
import Derived.Test.YtdfagnjdconkcaaRoMath
import Derived.Test.YtdfagnjdconkcaaShelf
import Derived.WalkKit
import Derived.ProofKit
import Derived.OpenShut
import Derived.Deep.QuietTactic
import Derived.BigQuiet
import Derived.IntWalk
import Derived.Lib.Hide
import Derived.WalkLawsBesides
import Derived.WalkSpells
import Derived.WalkSmall
namespace Go.Proofs.Ytdfagnjdconkcaa
open Go.ChangeShapes Go.WideShapes Go.ChangeAt Go.RowKit
set_option maxRecDepth 100000

theorem ret_int {k : IntKind} {a b : Int} (h : a = b) : Ending.returned (.int k a) = .returned (.int k b) := by rw [h]
theorem ret_bool {a b : Bool} (h : a = b) : Ending.returned (.bool a) = .returned (.bool b) := by rw [h]
theorem below_nx {w w1 w2 : World} (h : Below w.heap.size w w1) (k : Below w1.heap.size w1 w2) : Below w.heap.size w w2 := h.trans (k.mono h.size)

/-- Go's remainder, made not negative. -/
theorem mod_fix (x n : Int) : (x.tmod n + n) % n = x % n := by
  rw [Int.add_emod_right]
  have : x.tmod n = x - n * (x.tdiv n) := by have := Int.mul_tdiv_add_tmod x n; omega
  rw [this, Int.sub_mul_emod_self_left]

theorem modulo_any (x n : Int) (h0 : 1 ≤ n) (h1 : n ≤ 4294967296) (w : World) :
    Calls Try.prog 29 #[.int .i64 x, .int .i64 n] w fun e w' => e = .returned (.int .i64 (x % n)) ∧ w = w' := by
  have h2 : x.tmod n < n := Int.tmod_lt_of_pos x (by omega)
  have h3 : -n < x.tmod n := Int.lt_tmod_of_pos x (by omega)
  have H := Lib.hid (mod_fix x n)
  go_enter Try.func29, Try.ntmps29
  go_wp2
  go_ret
  exact ⟨ret_int H.out, rfl⟩

theorem refmod_any (x n : Int) (h0 : 1 ≤ n) (h1 : n ≤ 4294967296) (w : World) :
    Calls Try.prog 28 #[.int .i64 x, .int .i64 n] w fun e w' => e = .returned (.int .i64 (x % n)) ∧ w = w' := by
  have h2 : x.tmod n < n := Int.tmod_lt_of_pos x (by omega)
  have h3 : -n < x.tmod n := Int.lt_tmod_of_pos x (by omega)
  have H := Lib.hid (mod_fix x n)
  go_enter Try.func28, Try.ntmps28
  go_wp2
  go_ret
  exact ⟨ret_int H.out, rfl⟩

theorem isLength_any (n : Int) (w : World) :
    Calls Try.prog 22 #[.int .i64 n] w fun e w' => e = .returned (.bool (decide (2 ≤ n ∧ n ≤ 10))) ∧ w = w' := by
  by_cases h1 : 2 ≤ n
  · by_cases h2 : n ≤ 10
    · have H := Lib.hid (show decide (2 ≤ n ∧ n ≤ 10) = true from decide_eq_true ⟨h1, h2⟩)
      go_enter Try.func22, Try.ntmps22
      go_wp2
      go_ret
      exact ⟨ret_bool (by rw [H.out]), rfl⟩
    · go_enter Try.func22, Try.ntmps22
      go_wp2
      go_ret
      exact ⟨ret_bool (by simp <;> omega), rfl⟩
  · go_enter Try.func22, Try.ntmps22
    go_wp2
    go_ret
    exact ⟨ret_bool (by simp <;> omega), rfl⟩

/-! ### slices of integers -/
/-- A slice of integers that can be read. -/
def IntsV (W : World) (v : Value) (xs : List Int) : Prop :=
  ∃ (ao : Option Addr) (cap : Nat), v = .slice ao xs.length cap ∧ xs.length ≤ cap ∧ (0 < xs.length → ∃ b off, ao = some ⟨b, off, none⟩ ∧ ∀ i, i < xs.length → W.cell? ⟨b, off + i, none⟩ = some (.int .i64 (xs[i]?.getD 0)))

theorem IntsV.later {W W' : World} {v : Value} {xs : List Int} (h : IntsV W v xs) (hb : Below W.heap.size W W') : IntsV W' v xs := by
  obtain ⟨ao, cap, rfl, hlc, hc⟩ := h
  refine ⟨ao, cap, rfl, hlc, fun h0 => ?_⟩
  obtain ⟨b, off, e, hd⟩ := hc h0
  exact ⟨b, off, e, fun i hi => cell_later hb (hd i hi)⟩

theorem IntsV.of_own {W : World} {lo : Nat} {v : Value} {xs : List Int} (h : W.ownsRow lo 3 1 v xs.length (xs.map (Value.int .i64))) : IntsV W v xs := by
  have h' := h
  obtain ⟨h0, h1 | ⟨g, cap, cur, hv, hg, hh, h2⟩⟩ := h
  · exact ⟨none, 0, by rw [h1.1, h1.2], by omega, fun h => by omega⟩
  · refine ⟨_, cap, hv, h2.1, fun _ => ⟨g, 0, rfl, fun i hi => ?_⟩⟩
    subst hv
    rw [Nat.zero_add, h'.cellAt i (by omega)]
    simp [hi]

theorem IntsV.take {W : World} {v : Value} {xs : List Int} (h : IntsV W v xs) : ∃ ao cap, v = .slice ao xs.length cap := by
  obtain ⟨ao, cap, rfl, _⟩ := h; exact ⟨ao, cap, rfl⟩

theorem areTones_zero (n : Int) (ao : Option Addr) (cap : Nat) (w : World) :
    Calls Try.prog 23 #[.int .i64 n, .slice ao 0 cap] w fun e w' => e = .returned (.bool true) ∧ w = w' := by
  go_enter Try.func23, Try.ntmps23
  go_wp2
  go_loopw [5, 7, 10] (fun _ _ i wr => i = .int .i64 0 ∧ w = wr) (fun _ _ _ _ => 0)
  case atStart => exact ⟨rfl, rfl⟩
  case round =>
    obtain ⟨rfl, rfl⟩ := hrel
    go_wp2
    go_ret
    exact ⟨rfl, rfl⟩

theorem w64_pow {y : Nat} (h : y < 16) : wrap64 ((2 : Int) ^ y) = ((1 <<< y : Nat) : Int) := by
  rw [Nat.one_shiftLeft]
  have h1 : (2 : Nat) ^ y < 2 ^ 16 := Nat.pow_lt_pow_right (by omega) h
  have e : ((2 : Int) ^ y) = ((2 ^ y : Nat) : Int) := by simp
  rw [e]
  generalize 2 ^ y = m at h1
  unfold wrap64
  omega
theorem one_shl {n : Nat} (hn : n < 16) : (1 : Nat) <<< n < 2 ^ 16 := by rw [Nat.one_shiftLeft]; exact Nat.pow_lt_pow_right (by omega) hn

set_option maxHeartbeats 2000000 in
theorem areTones_pos (n : Nat) (hn2 : n ≤ 16) (xs : List Int) (b off cap : Nat) (w : World) (hl : xs.length ≤ maxLen) (hc : ∀ i, i < xs.length → w.cell? ⟨b, off + i, none⟩ = some (.int .i64 (xs[i]?.getD 0))) :
    Calls Try.prog 23 #[.int .i64 n, .slice (some ⟨b, off, none⟩) xs.length cap] w fun e w' => e = .returned (.bool (partB n xs)) ∧ w = w' := by
  have HC := Lib.hid hc
  clear hc
  unfold maxLen at hl
  go_enter Try.func23, Try.ntmps23
  go_wp2
  go_loopw [5, 7, 10] (fun m _ i wr => ∃ (k : Nat) (ys : List Nat), k ≤ xs.length ∧ i = .int .i64 k ∧ m = .int .i64 (maskL ys) ∧ xs.take k = natI ys ∧ (∀ y ∈ ys, y < n) ∧ ys.Nodup ∧ w = wr) (fun _ _ i _ => xs.length - (intOf i).toNat)
  case atStart => exact ⟨0, [], Nat.zero_le _, rfl, rfl, rfl, by simp, by simp, rfl⟩
  case round =>
    obtain ⟨k, ys, hk, rfl, rfl, hpre, hlt, hnd, rfl⟩ := hrel
    by_cases hlk : k < xs.length
    · have ck := HC.out k hlk
      have hge : xs[k]?.getD 0 = xs[k] := by rw [List.getElem?_eq_getElem hlk]; rfl
      have HM := Lib.hid (show xs[k] ∈ xs from List.getElem_mem hlk)
      have HT := Lib.hid (show xs.take (k + 1) = xs.take k ++ [xs[k]] from List.take_succ_eq_append_getElem hlk)
      have HD := Lib.hid (fun h => part_false_dup (n := n) hlk h)
      rw [hge] at ck
      clear hge
      generalize xs[k] = x at ck HM HT HD
      by_cases h0 : x < 0
      · have HV := Lib.hid (part_false_lt (n := n) HM.out (fun h => by omega))
        go_wp2
        go_ret
        exact ⟨ret_bool HV.out.symm, rfl⟩
      · by_cases h1 : (n : Int) ≤ x
        · have HV := Lib.hid (part_false_lt (n := n) HM.out (fun h => by omega))
          go_wp2
          go_ret
          exact ⟨ret_bool HV.out.symm, rfl⟩
        · obtain ⟨y, rfl⟩ := Int.eq_ofNat_of_zero_le (show 0 ≤ x by omega)
          have hyn : y < 16 := by omega
          have hml : maskL ys < 2 ^ 16 := Nat.lt_of_lt_of_le (mask_lt hlt) (Nat.pow_le_pow_right (by omega) hn2)
          have hol := one_shl hyn
          have HA := Lib.hid (and_nat (maskL ys) (1 <<< y) (by omega) (by omega))
          have HO := Lib.hid (or_nat (maskL ys) (1 <<< y) (by omega) (by omega))
          have HW := Lib.hid (w64_pow hyn)
          by_cases hdup : y ∈ ys
          · have HV := Lib.hid (HD.out (by rw [hpre]; exact natI_mem.2 hdup))
            have q : (bits .and .i64 ((maskL ys : Nat) : Int) (wrap64 (2 ^ y)) != 0) = true := by
              rw [HW.out, HA.out, bne_iff_ne]
              intro e
              have e' : maskL ys &&& 1 <<< y = 0 := by exact_mod_cast e
              exact (mask_and ys y).1 e' hdup
            clear hpre hlt hnd HD hdup
            go_wp2
            go_ret
            exact ⟨ret_bool HV.out.symm, rfl⟩
          · have q : (bits .and .i64 ((maskL ys : Nat) : Int) (wrap64 (2 ^ y)) != 0) = false := by
              rw [HW.out, HA.out, bne_eq_false_iff_eq]
              exact_mod_cast (mask_and ys y).2 hdup
            have HP := Lib.hid hpre
            have HL := Lib.hid hlt
            have HN := Lib.hid hnd
            have HU := Lib.hid hdup
            clear hpre hlt hnd HD hdup
            go_wp2
            go_roundw
            case rel =>
              refine ⟨k + 1, ys ++ [y], by omega, by go_num, ?_, ?_, ?_, ?_, trivial⟩
              · rw [HW.out, HO.out, mask_snoc]
              · rw [HT.out, HP.out]; simp [natI]
              · intro z hz
                rcases List.mem_append.1 hz with hz | hz
                · exact HL.out z hz
                · have : z = y := by simpa using hz
                  omega
              · rw [List.nodup_append]
                refine ⟨HN.out, by simp, ?_⟩
                intro a ha c hc e
                have : c = y := by simpa using hc
                exact HU.out (by rw [← this, ← e]; exact ha)
            case measure => simp only [intOf]; omega
    · have HE := Lib.hid (show partB n xs = true by
        rw [← List.take_of_length_le (i := k) (l := xs) (by omega), hpre]
        exact part_of hlt hnd)
      clear hpre hlt hnd
      go_wp2
      go_ret
      exact ⟨ret_bool HE.out.symm, rfl⟩

theorem areTones_any (n : Nat) (hn2 : n ≤ 16) (xs : List Int) (v : Value) (w : World) (hl : xs.length ≤ maxLen) (h : IntsV w v xs) :
    Calls Try.prog 23 #[.int .i64 n, v] w fun e w' => e = .returned (.bool (partB n xs)) ∧ w = w' := by
  obtain ⟨ao, cap, rfl, _, hc⟩ := h
  by_cases h0 : 0 < xs.length
  · obtain ⟨b, off, rfl, hd⟩ := hc h0
    exact areTones_pos n hn2 xs b off cap w hl hd
  · obtain rfl := List.eq_nil_of_length_eq_zero (show xs.length = 0 by omega)
    exact (areTones_zero n ao cap w).mono fun e w' h => ⟨h.1.trans (ret_bool (by simp [partB])), h.2⟩

/-! ### the reference's -/
theorem shr_and (ys : List Nat) (y : Nat) (h : maskL ys < 2 ^ 16) : (bits .and .i64 (((maskL ys : Nat) : Int) / 2 ^ y) 1 == 1) = decide (y ∈ ys) := by
  have e1 : ((maskL ys : Nat) : Int) / 2 ^ y = ((maskL ys >>> y : Nat) : Int) := by
    rw [Nat.shiftRight_eq_div_pow]; simp
  have hl : maskL ys >>> y < 2 ^ 63 := by
    rw [Nat.shiftRight_eq_div_pow]
    exact Nat.lt_of_le_of_lt (Nat.div_le_self _ _) (by omega)
  rw [e1, show (1 : Int) = ((1 : Nat) : Int) from rfl, and_nat _ _ hl (by omega), Bool.eq_iff_iff, beq_iff_eq, decide_eq_true_eq, ← mask_shift ys y]
  exact ⟨fun h => by exact_mod_cast h, fun h => by exact_mod_cast h⟩
theorem RPart_zero (n : Int) (ao : Option Addr) (cap : Nat) (w : World) :
    Calls Try.prog 16 #[.slice ao 0 cap, .int .i64 n] w fun e w' => e = .returned (.bool true) ∧ w = w' := by
  go_enter Try.func16, Try.ntmps16
  go_wp2
  go_loopw [5, 7, 10] (fun _ _ i wr => i = .int .i64 0 ∧ w = wr) (fun _ _ _ _ => 0)
  case atStart => exact ⟨rfl, rfl⟩
  case round =>
    obtain ⟨rfl, rfl⟩ := hrel
    go_wp2
    go_ret
    exact ⟨rfl, rfl⟩

set_option maxHeartbeats 2000000 in
theorem RPart_pos (n : Nat) (hn2 : n ≤ 16) (xs : List Int) (b off cap : Nat) (w : World) (hl : xs.length ≤ maxLen) (hc : ∀ i, i < xs.length → w.cell? ⟨b, off + i, none⟩ = some (.int .i64 (xs[i]?.getD 0))) :
    Calls Try.prog 16 #[.slice (some ⟨b, off, none⟩) xs.length cap, .int .i64 n] w fun e w' => e = .returned (.bool (partB n xs)) ∧ w = w' := by
  have HC := Lib.hid hc
  clear hc
  unfold maxLen at hl
  go_enter Try.func16, Try.ntmps16
  go_wp2
  go_loopw [5, 7, 10] (fun m _ i wr => ∃ (k : Nat) (ys : List Nat), k ≤ xs.length ∧ i = .int .i64 k ∧ m = .int .i64 (maskL ys) ∧ xs.take k = natI ys ∧ (∀ y ∈ ys, y < n) ∧ ys.Nodup ∧ w = wr) (fun _ _ i _ => xs.length - (intOf i).toNat)
  case atStart => exact ⟨0, [], Nat.zero_le _, rfl, rfl, rfl, by simp, by simp, rfl⟩
  case round =>
    obtain ⟨k, ys, hk, rfl, rfl, hpre, hlt, hnd, rfl⟩ := hrel
    by_cases hlk : k < xs.length
    · have ck := HC.out k hlk
      have hge : xs[k]?.getD 0 = xs[k] := by rw [List.getElem?_eq_getElem hlk]; rfl
      have HM := Lib.hid (show xs[k] ∈ xs from List.getElem_mem hlk)
      have HT := Lib.hid (show xs.take (k + 1) = xs.take k ++ [xs[k]] from List.take_succ_eq_append_getElem hlk)
      have HD := Lib.hid (fun h => part_false_dup (n := n) hlk h)
      rw [hge] at ck
      clear hge
      generalize xs[k] = x at ck HM HT HD
      by_cases h0 : x < 0
      · have HV := Lib.hid (part_false_lt (n := n) HM.out (fun h => by omega))
        go_wp2
        go_ret
        exact ⟨ret_bool HV.out.symm, rfl⟩
      · by_cases h1 : (n : Int) ≤ x
        · have HV := Lib.hid (part_false_lt (n := n) HM.out (fun h => by omega))
          go_wp2
          go_ret
          exact ⟨ret_bool HV.out.symm, rfl⟩
        · obtain ⟨y, rfl⟩ := Int.eq_ofNat_of_zero_le (show 0 ≤ x by omega)
          have hyn : y < 16 := by omega
          have hml : maskL ys < 2 ^ 16 := Nat.lt_of_lt_of_le (mask_lt hlt) (Nat.pow_le_pow_right (by omega) hn2)
          have hol := one_shl hyn
          have HA := Lib.hid (shr_and ys y hml)
          have HO := Lib.hid (or_nat (maskL ys) (1 <<< y) (by omega) (by omega))
          have HW := Lib.hid (w64_pow hyn)
          by_cases hdup : y ∈ ys
          · have HV := Lib.hid (HD.out (by rw [hpre]; exact natI_mem.2 hdup))
            have q : (bits .and .i64 (((maskL ys : Nat) : Int) / 2 ^ y) 1 == 1) = true := by
              rw [HA.out, decide_eq_true hdup]
            clear hpre hlt hnd HD hdup
            go_wp2
            go_ret
            exact ⟨ret_bool HV.out.symm, rfl⟩
          · have q : (bits .and .i64 (((maskL ys : Nat) : Int) / 2 ^ y) 1 == 1) = false := by
              rw [HA.out, decide_eq_false hdup]
            have HP := Lib.hid hpre
            have HL := Lib.hid hlt
            have HN := Lib.hid hnd
            have HU := Lib.hid hdup
            clear hpre hlt hnd HD hdup
            go_wp2
            go_roundw
            case rel =>
              refine ⟨k + 1, ys ++ [y], by omega, by go_num, ?_, ?_, ?_, ?_, trivial⟩
              · rw [HW.out, HO.out, mask_snoc]
              · rw [HT.out, HP.out]; simp [natI]
              · intro z hz
                rcases List.mem_append.1 hz with hz | hz
                · exact HL.out z hz
                · have : z = y := by simpa using hz
                  omega
              · rw [List.nodup_append]
                refine ⟨HN.out, by simp, ?_⟩
                intro a ha c hc e
                have : c = y := by simpa using hc
                exact HU.out (by rw [← this, ← e]; exact ha)
            case measure => simp only [intOf]; omega
    · have HE := Lib.hid (show partB n xs = true by
        rw [← List.take_of_length_le (i := k) (l := xs) (by omega), hpre]
        exact part_of hlt hnd)
      clear hpre hlt hnd
      go_wp2
      go_ret
      exact ⟨ret_bool HE.out.symm, rfl⟩

theorem RPart_any (n : Nat) (hn2 : n ≤ 16) (xs : List Int) (v : Value) (w : World) (hl : xs.length ≤ maxLen) (h : IntsV w v xs) :
    Calls Try.prog 16 #[v, .int .i64 n] w fun e w' => e = .returned (.bool (partB n xs)) ∧ w = w' := by
  obtain ⟨ao, cap, rfl, _, hc⟩ := h
  by_cases h0 : 0 < xs.length
  · obtain ⟨b, off, rfl, hd⟩ := hc h0
    exact RPart_pos n hn2 xs b off cap w hl hd
  · obtain rfl := List.eq_nil_of_length_eq_zero (show xs.length = 0 by omega)
    exact (RPart_zero n ao cap w).mono fun e w' h => ⟨h.1.trans (ret_bool (by simp [partB])), h.2⟩
end Go.Proofs.Ytdfagnjdconkcaa
