/-
  The tones of a scale as a slice: the program's and the reference's.
-/
import Derived.Test.YtmemnkmmjejlgaaDoorCaOnes
import Derived.Test.YtmemnkmmjejlgaaDoorEvSpread
import Derived.Test.YtmemnkmmjejlgaaDoorMem
import Derived.OwnWalk
import Derived.Maps.AppendAt
import Derived.Lib.OwnBridge
import Derived.Laws.MakeOwn
namespace Go.Proofs.YtmemnkmmjejlgaaDoor
open Go.RowKit Go.Shelf
attribute [local go_sem] Oper.semAt_some
set_option maxRecDepth 100000

theorem info_int : (Tryd.prog.info? 3).map (fun i => (i.zero, i.size, i.bytes)) = some (some (.int .i64 0), 1, 8) := by kernel_rfl

/-- A slice of integers that can be read; there is at least one. -/
def ListAt (W : World) (lo : Nat) (v : Value) (xs : List Nat) : Prop :=
  ∃ g cap, v = .slice (some ⟨g, 0, none⟩) xs.length cap ∧ lo ≤ g ∧ xs.length ≤ cap ∧ ∀ i, i < xs.length → W.cell? ⟨g, i, none⟩ = some (.int .i64 ((xs[i]?.getD 0 : Nat) : Int))

theorem ListAt.later {W W' : World} {lo : Nat} {v : Value} {xs : List Nat} (h : ListAt W lo v xs) (hb : Below W.heap.size W W') : ListAt W' lo v xs := by
  obtain ⟨g, cap, h1, h2, h3, h4⟩ := h
  exact ⟨g, cap, h1, h2, h3, fun i hi => cell_later hb (h4 i hi)⟩

theorem ListAt.of_own {W : World} {lo : Nat} {v : Value} {xs : List Nat} (h : W.ownsRow lo 3 1 v xs.length (ints xs)) (hx : 1 ≤ xs.length) : ListAt W lo v xs := by
  have h' := h
  obtain ⟨h0, h1 | ⟨g, cap, cur, hv, hg, hh, h2, h3, h4, h5⟩⟩ := h
  · omega
  · refine ⟨g, cap, hv, hg, h2, fun i hi => ?_⟩
    subst hv
    have := h'.cellAt i (by omega)
    rw [this, ints_at hi]

theorem run_make_room (k : Nat) (hk : k ≤ 65536) (W : World) : (Instr.makeSlice 25 (.int .i64 0) (.int .i64 (k : Int))).run Tryd.prog W = .ok (.slice (some ⟨W.heap.size, 0, none⟩) 0 k) (W.alloc (.cells (madeCells #[.int .i64 0] k) 3)) := by
  obtain ⟨i0, hi, hz0, hz1, hz2⟩ := info_parts info_int
  have h := run_make (P := Tryd.prog) W 25 3 i0 (.int .i64 0) Tryd.underlying25 hi hz0 .i64 .i64 0 (k : Int) (by omega) (by omega) (by rw [hz2]; omega) (by omega)
  rw [hz1, Int.toNat_natCast, Nat.mul_one] at h
  exact h

theorem made_own (W : World) (H k : Nat) (hH : H ≤ W.heap.size) (hk : k ≤ 65536) : (W.alloc (.cells (madeCells #[.int .i64 0] k) 3)).ownsRow H 3 1 (.slice (some ⟨W.heap.size, 0, none⟩) 0 k) 0 [] := by
  refine ⟨by simp, Or.inr ⟨W.heap.size, k, madeCells #[.int .i64 0] k, rfl, hH, ?_, by omega, by unfold maxLen; omega, by simp [size_madeCells], by simp⟩⟩
  exact World.alloc_heap_new W _

theorem tones_slice (n c : Nat) (hn : n ≤ 16) (hc : c < 2 ^ n) (h0 : 1 ≤ c) (w : World) (hT : Tab w) :
    Calls Tryd.prog 50 #[.int .i64 c] w fun e w' => ∃ v, e = .returned v ∧ ListAt w' w.heap.size v (tonesB n c) ∧ Below w.heap.size w w' := by
  have hc62 : c < 2 ^ 16 := Nat.lt_of_lt_of_le hc (Nat.pow_le_pow_right (by omega) hn)
  have hcw : IntKind.u64.wrap (c : Int) = c := wrap_natu c (by omega)
  have HI := Lib.hid (tonesIn_any c (by omega))
  have hL := tonesL_length c
  have hmk : ∀ W : World, (Instr.makeSlice 25 (.int .i64 0) (.int .i64 ((tonesL c).length : Nat))).run Tryd.prog W = .ok (.slice (some ⟨W.heap.size, 0, none⟩) 0 (tonesL c).length) (W.alloc (.cells (madeCells #[.int .i64 0] (tonesL c).length) 3)) := run_make_room _ (by omega)
  have HO := Lib.hid (fun (W : World) (H : Nat) (hH : H ≤ W.heap.size) => made_own W H (tonesL c).length hH (by omega))
  have HE := Lib.hid (tonesL_eq c (n := n) (by omega) hc)
  obtain ⟨H, hH⟩ : ∃ H, w.heap.size = H := ⟨_, rfl⟩
  have hHle : H ≤ w.heap.size := by omega
  have hTs : 1 < H := by have := hT.size; omega
  have hpos : 1 ≤ (tonesL c).length := by
    rw [tonesL_step c (by omega) (by omega)]; simp
  obtain ⟨i0, hi, hz0, hz1, hz2⟩ := info_parts info_int
  rw [hH]
  have HH := Lib.hid hH
  have HL := Lib.hid hL
  have HPos := Lib.hid hpos
  obtain ⟨L, hLL⟩ : ∃ L, (tonesL c).length = L := ⟨_, rfl⟩
  rw [hLL] at HI hmk HO
  have HLL := Lib.hid hLL
  clear hL hH hLL hpos
  go_enter Tryd.func50, Tryd.ntmps50
  go_wp2_with fail
  refine (HI.out _).mono ?_
  rintro e w' ⟨rfl, rfl⟩
  go_wp2
  clear hmk
  go_loopw [3, 4] (fun v p wr => ∃ (pre : List Nat) (r : Nat), p = .int .u64 r ∧ r < 2 ^ 16 ∧ tonesL c = pre ++ tonesL r ∧ wr.ownsRow H 3 1 v pre.length (ints pre) ∧ Below H w wr) (fun _ p _ => (intOf p).toNat)
  case atStart => exact ⟨[], c, rfl, hc62, rfl, HO.out w H hHle, (Below.refl H w).alloc hHle _⟩
  case round =>
    obtain ⟨pre, r, rfl, hr, hx, hown, hB⟩ := hrel
    have hTr : Tab wr := hT.below hB hTs
    by_cases hr0 : r = 0
    · subst hr0
      have h' : ((0 : Nat) : Int) = 0 := rfl
      rw [h']
      have hfin : tonesB n c = pre := by rw [← HE.out, hx, tonesL_zero, List.append_nil]
      have hlen : 1 ≤ pre.length := by have := HPos.out; rw [hx, tonesL_zero, List.append_nil] at this; exact this
      have hl := ListAt.of_own hown hlen
      rw [← hfin] at hl
      have hl' := Lib.hid hl
      clear hx hcw hown hfin hlen hl
      go_wp2
      go_ret
      exact ⟨_, rfl, hl'.out, hB⟩
    · have h1 : ((r : Int) != 0) = true := by rw [bne_iff_ne]; omega
      have h2 : ((r : Int) == 0) = false := by rw [beq_eq_false_iff_ne]; omega
      have htz := Lib.hid (tz_any r (by omega) hr0 wr hTr)
      have hst := tonesL_step r hr0 (by omega)
      have hlen : pre.length < 64 := by
        have e := congrArg List.length hx
        have := HL.out
        rw [hst] at e
        simp at e
        omega
      have hnext := Lib.hid (show tonesL c = (pre ++ [Lib.ctz 64 r]) ++ tonesL (r &&& (r - 1)) by rw [hx, hst]; simp)
      have hand : Hid (bits .and .u64 (r : Int) ((r : Int) - 1) = ((r &&& (r - 1) : Nat) : Int)) := by
        have e : (r : Int) - 1 = ((r - 1 : Nat) : Int) := by omega
        rw [e]; exact andu_nat r (r - 1) (by omega) (by omega)
      have hdec : r &&& (r - 1) < r := Nat.lt_of_le_of_lt Nat.and_le_right (by omega)
      have hs := hB.size
      have h2' := Lib.hid h2
      have ho' := Lib.hid hown
      clear hst hcw hx h2 hown
      generalize Lib.ctz 64 r = t at htz hnext
      go_wp2_with (first | (go_at_call 72; refine htz.out.mono ?_; rintro e w' ⟨rfl, rfl⟩) | (at_builtin; refine wpList_append_own _ rfl _ _ 25 rfl H 3 i0 (.int .i64 0) 1 8 Tryd.underlying25 hi hz0 hz1 hz2 rfl (by decide) _ _ _ rfl (ho'.out.alloc _) ⟨wr.heap.size, 0, none⟩ 1 1 [.int .i64 t] rfl rfl (cell_one_new _ _ _) (by simp [Value.oneCell']) (by unfold maxLen; omega) (by omega) (by simp; omega) ?_; intro v' w1 hown1 hgrow1 hnil1))
      go_roundw
      case rel => exact ⟨pre ++ [t], r &&& (r - 1), by rw [hand.out], by omega, hnext.out, by rw [List.length_append]; unfold ints at hown1 ⊢; rw [List.map_append]; exact hown1, (hB.alloc (by omega) _).grown hgrow1 (by simp; omega) (fun q e => (ho'.out.lt q e).1)⟩
      case measure => simp only [intOf]; rw [hand.out]; omega

theorem tonesB_succ (n c : Nat) : tonesB (n + 1) c = tonesB n c ++ if c.testBit n then [n] else [] := by
  unfold tonesB
  rw [List.range_succ, List.filter_append]
  congr 1
  cases h : c.testBit n <;> simp [h]

theorem bit_int (c x : Nat) (hc : c < 2 ^ 62) : bits .and .i64 ((c : Int) / 2 ^ x) 1 = if c.testBit x then 1 else 0 := by
  have e1 : (c : Int) / 2 ^ x = ((c / 2 ^ x : Nat) : Int) := by simp
  have e2 : (1 : Int) = ((1 : Nat) : Int) := rfl
  have hb : c / 2 ^ x < 2 ^ 63 := Nat.lt_of_le_of_lt (Nat.div_le_self _ _) (by omega)
  rw [e1, e2, and_nat _ _ hb (by omega), Nat.and_one_is_mod, Nat.testBit_eq_decide_div_mod_eq]
  have := Nat.mod_two_eq_zero_or_one (c / 2 ^ x)
  rcases this with h | h <;> simp [h]

theorem tonesB_le (n c : Nat) : (tonesB n c).length ≤ n := by
  unfold tonesB; exact Nat.le_trans (List.length_filter_le _ _) (by simp)

theorem tonesB_pos {n c : Nat} (hn : n ≤ 16) (h0 : 1 ≤ c) (hc : c < 2 ^ n) : 1 ≤ (tonesB n c).length := by
  have hc62 : c < 2 ^ 16 := Nat.lt_of_lt_of_le hc (Nat.pow_le_pow_right (by omega) hn)
  rw [← tonesL_eq c (n := n) (by omega) hc, tonesL_step c (by omega) (by omega)]; simp

theorem refTones_any (n c : Nat) (hn2 : n ≤ 16) (h0 : 1 ≤ c) (hc : c < 2 ^ n) (w : World) :
    Calls Tryd.prog 23 #[.int .i64 n, .int .i64 c] w fun e w' => ∃ v, e = .returned v ∧ ListAt w' w.heap.size v (tonesB n c) ∧ Below w.heap.size w w' := by
  obtain ⟨i0, hi, hz0, hz1, hz2⟩ := info_parts info_int
  have hc62 : c < 2 ^ 16 := Nat.lt_of_lt_of_le hc (Nat.pow_le_pow_right (by omega) hn2)
  have HBit := Lib.hid (fun x => bit_int c x (by omega))
  have HS := Lib.hid (fun k => tonesB_succ k c)
  have HLe := Lib.hid (fun k => tonesB_le k c)
  have HPos := Lib.hid (tonesB_pos hn2 h0 hc)
  obtain ⟨H, hH⟩ : ∃ H, w.heap.size = H := ⟨_, rfl⟩
  have hHle : H ≤ w.heap.size := by omega
  rw [hH]
  clear hH h0 hc hc62
  go_enter Tryd.func23, Tryd.ntmps23
  go_wp2
  go_loopw [5, 6, 8] (fun v _ i wr => ∃ k : Nat, k ≤ n ∧ i = .int .i64 k ∧ wr.ownsRow H 3 1 v (tonesB k c).length (ints (tonesB k c)) ∧ Below H w wr) (fun _ _ i _ => n - (intOf i).toNat)
  case atStart => exact ⟨0, Nat.zero_le _, rfl, World.ownsRow_nil _ _ _ _, Below.refl _ _⟩
  case round =>
    obtain ⟨k, hk, rfl, hown, hB⟩ := hrel
    by_cases hlt : k < n
    · have hb := HBit.out k
      have hst := HS.out k
      have hle := HLe.out k
      have hs := hB.size
      have ho' := Lib.hid hown
      clear hown
      have hp := pow_bd (k : Int) (by omega) (by omega)
      simp only [Int.toNat_natCast] at hp
      cases ht : c.testBit k
      · rw [ht] at hb hst
        simp only [Bool.false_eq_true, if_false, List.append_nil] at hb hst
        have hst' := Lib.hid hst
        clear hst ht
        go_wp2
        go_roundw
        case rel => exact ⟨k + 1, by omega, by go_num, by rw [hst'.out]; exact ho'.out, hB⟩
        case measure => simp only [intOf]; omega
      · rw [ht] at hb hst
        simp only [if_true] at hb hst
        have hst' := Lib.hid hst
        clear hst ht
        go_wp2_with (at_builtin; refine wpList_append_own _ rfl _ _ 25 rfl H 3 i0 (.int .i64 0) 1 8 Tryd.underlying25 hi hz0 hz1 hz2 rfl (by decide) _ _ _ rfl (ho'.out.alloc _) ⟨wr.heap.size, 0, none⟩ 1 1 [.int .i64 k] rfl rfl (cell_one_new _ _ _) (by simp [Value.oneCell']) (by unfold maxLen; omega) (by omega) (by simp; omega) ?_; intro v' w1 hown1 hgrow1 hnil1)
        go_roundw
        case rel => exact ⟨k + 1, by omega, by go_num, by rw [hst'.out, List.length_append]; unfold ints at hown1 ⊢; rw [List.map_append]; exact hown1, (hB.alloc (by omega) _).grown hgrow1 (by simp; omega) (fun q e => (ho'.out.lt q e).1)⟩
        case measure => simp only [intOf]; omega
    · obtain rfl : k = n := by omega
      have hl := ListAt.of_own hown HPos.out
      have hl' := Lib.hid hl
      clear hl hown
      go_wp2
      go_ret
      exact ⟨_, rfl, hl'.out, hB⟩

end Go.Proofs.YtmemnkmmjejlgaaDoor
