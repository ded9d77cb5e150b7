/-
  Even and Word of the reference; Word and Spans of package even.
-/
import Derived.Test.YtmemnkmmjejlgaaDoorEvWords
namespace Go.Proofs.YtmemnkmmjejlgaaDoor
open Go.RowKit Go.Shelf
attribute [local go_sem] Oper.semAt_some
set_option maxRecDepth 100000

theorem refEven_any (n s : Nat) (h1 : 2 ≤ n) (h2 : n ≤ 16) (h3 : 1 ≤ s) (h4 : s < 2 ^ n) (w : World) :
    Calls Tryd.prog 20 #[.int .i64 n, .int .i64 s] w fun e w' => e = .returned (.bool (evenB n s)) ∧ Below w.heap.size w w' := by
  have hpos := tonesB_pos h2 h3 h4
  have hle := tonesB_le n s
  have HT := Lib.hid (fun W => refTones_any n s h2 h3 h4 W)
  have HP := Lib.hid (fun j a b W => refSpans_any n s j h1 h2 h3 h4 a b W)
  have HA := Lib.hid (fun j (b : j < (tonesB n s).length) => ref_ali (n := n) (ts := tonesB n s) (j := j) hpos (spans_lt hpos b))
  have HE := Lib.hid (show evTo n (tonesB n s) (tonesB n s).length = evenB n s from rfl)
  have HLt : Hid (∀ j, j < (tonesB n s).length → ∀ l, spL n (tonesB n s) j = l → ∀ x ∈ l, x < n) := Lib.hid (fun j hj l hl x hx => by rw [← hl] at hx; unfold spL at hx; exact List.mem_range.1 (List.mem_filter.1 hx).1)
  have HS := Lib.hid (evTo_succ n (tonesB n s))
  have HF : Hid (∀ j, 1 ≤ j → j < (tonesB n s).length → aliL (spansL n (tonesB n s) j) = false → evTo n (tonesB n s) (tonesB n s).length = false) := Lib.hid (fun j a b c => evTo_false a b c)
  have H1 := Lib.hid (show evTo n (tonesB n s) 1 = true from rfl)
  generalize evenB n s = ans at HE
  generalize tonesB n s = ts at *
  obtain ⟨K, hK⟩ : ∃ K, ts.length = K := ⟨_, rfl⟩
  unfold ListAt at HT HP
  rw [hK] at HT HP HA HE HF HLt hpos hle
  clear h3 h4 hK
  go_enter Tryd.func20, Tryd.ntmps20
  go_wp2
  go_loopw [5] (fun jv wr => ∃ j : Nat, 1 ≤ j ∧ j ≤ K ∧ jv = .int .i64 j ∧ evTo n ts j = true ∧ Below w.heap.size w wr) (fun jv _ => K - (intOf jv).toNat)
  case atStart => exact ⟨1, Nat.le_refl _, hpos, rfl, H1.out, Below.refl _ _⟩
  case round =>
    obtain ⟨j, hj1, hj2, rfl, hev, hB⟩ := hrel
    have HEv := Lib.hid hev
    clear hev
    go_wp2_with fail
    refine (HT.out _).mono ?_
    rintro e w2 ⟨_, rfl, ⟨g2, cap2, rfl, _, _, _⟩, hb2⟩
    have hB2 := hB.trans (hb2.mono hB.size)
    clear hb2
    by_cases hlt : j < K
    · have hst := HS.out j
      rw [HEv.out, Bool.true_and, decide_eq_false (show ¬ j = 0 by omega), Bool.false_or] at hst
      have hff := HF.out j hj1 hlt
      have hal := HA.out j hlt
      have HPj := Lib.hid (HP.out j hj1 hlt)
      generalize aliL (spansL n ts j) = v at hst hff hal
      generalize hll : spL n ts j = l at hal HPj
      go_wp2_with fail
      refine (HPj.out _).mono ?_
      rintro e w3 ⟨_, rfl, ⟨g, cap, rfl, hg, hcap, hc⟩, hb3⟩
      have hB3 := hB2.trans (hb3.mono hB2.size)
      clear hb3 hB2 hB
      rcases hal with ⟨hl, rfl⟩ | ⟨a, b, rfl, rfl⟩ | ⟨hl, rfl⟩
      · have HSt := Lib.hid hst
        generalize l.length = m at hl hcap
        subst hl
        clear hc hst hff
        go_wp2
        go_quiet (fail)
        go_wp2
        go_roundw
        case rel => exact ⟨j + 1, by omega, by omega, by go_num, HSt.out, below_drewN hB3 nq⟩
        case measure => simp only [intOf]; omega
      · have c0 := hc 0 (by simp)
        have c1 := hc 1 (by simp)
        simp only [List.getElem?_cons_zero, List.getElem?_cons_succ, Option.getD_some] at c0 c1
        simp only [List.length_cons, List.length_nil, Nat.zero_add, Nat.reduceAdd] at hcap
        clear hc
        have hab : a < 16 ∧ b < 16 := by
          have hm : ∀ x ∈ [a, b], x < n := HLt.out j hlt _ (hll)
          have := hm a (by simp)
          have := hm b (by simp)
          omega
        by_cases he : b = a + 1
        · rw [decide_eq_true he] at hst
          have HSt := Lib.hid hst
          have hq : ((b : Int) - (a : Int) != 1) = false := by rw [bne_eq_false_iff_eq]; omega
          clear hst hff he
          go_wp2
          go_quiet (fail)
          go_wp2
          go_roundw
          case rel => exact ⟨j + 1, by omega, by omega, by go_num, HSt.out, below_drewN hB3 nq⟩
          case measure => simp only [intOf]; omega
        · have HFin := Lib.hid (show false = ans by rw [← HE.out]; exact (hff (decide_eq_false he)).symm)
          have hq : ((b : Int) - (a : Int) != 1) = true := by rw [bne_iff_ne]; omega
          clear hst hff he
          go_wp2
          go_quiet (fail)
          go_wp2
          go_ret
          exact ⟨ret_bool HFin.out, below_drewN hB3 nq⟩
      · have HFin := Lib.hid (show false = ans by rw [← HE.out]; exact (hff rfl).symm)
        generalize l.length = m at hl hcap
        have hm1 : ((m : Int) > 2) := by omega
        clear hc hst hff
        go_wp2
        go_quiet (fail)
        go_wp2
        go_ret
        exact ⟨ret_bool HFin.out, below_drewN hB3 nq⟩
    · have HFin := Lib.hid (show true = ans by rw [← HE.out, ← HEv.out, show j = K by omega])
      go_wp2
      go_ret
      exact ⟨ret_bool HFin.out, hB2⟩

theorem word_one {n s : Nat} (hk : (tonesB n s).length = 1) : spansL n (tonesB n s) 1 = [n] := by
  unfold spansL spanN tN
  rw [hk]
  simp [Nat.mod_one]

theorem refWord_any (n s : Nat) (h1 : 2 ≤ n) (h2 : n ≤ 16) (h3 : 1 ≤ s) (h4 : s < 2 ^ n) (w : World) :
    Calls Tryd.prog 22 #[.int .i64 n, .int .i64 s] w fun e w' => ∃ v, e = .returned v ∧ ListAt w' w.heap.size v (spansL n (tonesB n s) 1) ∧ Below w.heap.size w w' := by
  have hpos := tonesB_pos h2 h3 h4
  have hle := tonesB_le n s
  have HT := Lib.hid (refTones_any n s h2 h3 h4 w)
  have HP := Lib.hid (fun b W => refspans_any n s 1 h2 h3 h4 (Nat.le_refl _) b W)
  have HO := Lib.hid (fun h => word_one (n := n) (s := s) h)
  generalize tonesB n s = ts at *
  obtain ⟨K, hK⟩ : ∃ K, ts.length = K := ⟨_, rfl⟩
  unfold ListAt at HT
  rw [hK] at HT HP HO hpos hle
  clear h3 h4 hK
  go_enter Tryd.func22, Tryd.ntmps22
  go_wp2_with fail
  refine HT.out.mono ?_
  rintro e w2 ⟨_, rfl, ⟨g2, cap2, rfl, _, _, _⟩, hb2⟩
  by_cases hk1 : K = 1
  · have hq : ((K : Int) == 1) = true := by rw [beq_iff_eq]; omega
    have HOne := Lib.hid (HO.out hk1)
    have hs2 := hb2.size
    clear hk1
    go_wp2
    go_ret
    refine ⟨_, rfl, ?_, hb2.alloc hb2.size _⟩
    rw [HOne.out]
    refine ⟨w2.heap.size, 1, rfl, hb2.size, Nat.le_refl _, fun i hi => ?_⟩
    obtain rfl : i = 0 := by simpa using hi
    exact cell_at rfl
  · have hq : ((K : Int) == 1) = false := by rw [beq_eq_false_iff_ne]; omega
    have HPj := Lib.hid (HP.out (by omega))
    clear hk1
    go_wp2_with fail
    refine (HPj.out _).mono ?_
    rintro e w3 ⟨v, rfl, hl, hb3⟩
    have hl' := Lib.hid (show ListAt w3 w.heap.size v _ from by obtain ⟨g, c, e1, e2, e3, e4⟩ := hl; exact ⟨g, c, e1, by have := hb2.size; omega, e3, e4⟩)
    have hB := hb2.trans (hb3.mono hb2.size)
    clear hl
    go_wp2
    go_ret
    exact ⟨v, rfl, hl'.out, hB⟩

theorem Word_bad (n s : Int) (h : vldB n s = false) (w : World) :
    Calls Tryd.prog 16 #[.int .i64 n, .int .i64 s] w fun e w' => e = .returned (.tuple #[.slice none 0 0, .int .i64 2]) ∧ Below w.heap.size w w' := by
  have HV := Lib.hid (valid1 n s _ h)
  clear h
  go_enter Tryd.func16, Tryd.ntmps16
  go_wp2_with (go_at_call 48; refine (HV.out _ _ _ (cell_at rfl)).mono ?_; rintro e w' ⟨rfl, rfl⟩)
  go_ret2
  exact ⟨rfl, below_two _ _⟩

theorem Word_ok (n s : Nat) (h1 : 2 ≤ n) (h2 : n ≤ 16) (h3 : 1 ≤ s) (h4 : s < 2 ^ n) (w : World) (hT : Tab w) :
    Calls Tryd.prog 16 #[.int .i64 n, .int .i64 s] w fun e w' => ∃ v, e = .returned (.tuple #[v, .int .i64 0]) ∧ ListAt w' w.heap.size v (spansL n (tonesB n s) 1) ∧ Below w.heap.size w w' := by
  have HV := Lib.hid (valid1 n s _ (vldB_of_nat h1 h2 h3 h4))
  obtain ⟨W, hW⟩ : ∃ W, w.alloc (.cells #[.int .i64 s] 3) = W := ⟨_, rfl⟩
  have hB : Below w.heap.size w W := by rw [← hW]; exact below_two _ _
  have HT := Lib.hid (tones_slice n s h2 h4 h3 W (hT.same hB))
  have hpos := tonesB_pos h2 h3 h4
  have HC := Lib.hid (fun g cap V hg hc => collectS_any n _ 1 g cap _ (Spn.of h2 h3 h4 (by omega)) V hg hc)
  have hsl : (spansL n (tonesB n s) 1).length = (tonesB n s).length := spansL_length _ _ _
  generalize tonesB n s = ts at *
  obtain ⟨K, hK⟩ : ∃ K, ts.length = K := ⟨_, rfl⟩
  unfold ListAt at HT
  rw [hK] at HT HC hpos hsl
  have HW := Lib.hid hW
  clear hT h3 h4 hK hW
  generalize spansL n ts 1 = l at HC hsl
  go_enter Tryd.func16, Tryd.ntmps16
  go_wp2_with (go_at_call 48; refine (HV.out _ _ _ (cell_at rfl)).mono ?_; rintro e w' ⟨rfl, rfl⟩)
  rw [HW.out]
  refine HT.out.mono ?_
  rintro e w2 ⟨_, rfl, ⟨g, cap, rfl, hg, hcap, hc⟩, hb2⟩
  have hgl : g < w2.heap.size := World.block_lt_of_cell? w2 _ (hc 0 hpos)
  have hB2 := hB.trans (hb2.mono hB.size)
  have hB3 : Below w2.heap.size w2 (w2.alloc (.cells #[.int .i64 n, .slice (some ⟨g, 0, none⟩) K cap, .int .i64 1] 50)) := below_two _ _
  have hC := Lib.hid (HC.out g cap _ (by have := hB3.size; omega) (fun i hi => cell_later hB3 (hc i hi)))
  have hB4 := hB2.trans (hB3.mono hB2.size)
  clear hc hb2 hgl
  go_wp2_with fail
  refine hC.out.mono ?_
  rintro e w3 ⟨v, rfl, ho, hb3⟩
  have hl := ListAt.of_own ho (by omega)
  have hl' := Lib.hid (show ListAt w3 w.heap.size v l from by obtain ⟨g, c, e1, e2, e3, e4⟩ := hl; exact ⟨g, c, e1, by have := hB4.size; omega, e3, e4⟩)
  have hB5 := hB4.trans (hb3.mono hB4.size)
  clear hl ho
  go_wp2
  go_ret2
  exact ⟨v, rfl, hl'.out, hB5⟩

theorem Spans_bad (n s j : Int) (h : vldB n s = false) (w : World) :
    Calls Tryd.prog 17 #[.int .i64 n, .int .i64 s, .int .i64 j] w fun e w' => e = .returned (.tuple #[.slice none 0 0, .int .i64 2]) ∧ Below w.heap.size w w' := by
  have HV := Lib.hid (valid1 n s _ h)
  clear h
  go_enter Tryd.func17, Tryd.ntmps17
  go_wp2_with (go_at_call 48; refine (HV.out _ _ _ (cell_at rfl)).mono ?_; rintro e w' ⟨rfl, rfl⟩)
  go_ret2
  exact ⟨rfl, below_two _ _⟩

theorem Spans_none (n s : Nat) (j : Int) (h1 : 2 ≤ n) (h2 : n ≤ 16) (h3 : 1 ≤ s) (h4 : s < 2 ^ n) (hj : ¬ (1 ≤ j ∧ j < (tonesB n s).length)) (w : World) :
    Calls Tryd.prog 17 #[.int .i64 n, .int .i64 s, .int .i64 j] w fun e w' => e = .returned (.tuple #[.slice none 0 0, .int .i64 2]) ∧ Below w.heap.size w w' := by
  have HV := Lib.hid (valid1 n s _ (vldB_of_nat h1 h2 h3 h4))
  have hc62 : s < 2 ^ 16 := Nat.lt_of_lt_of_le h4 (Nat.pow_le_pow_right (by omega) h2)
  have HI := Lib.hid (tonesIn_any s (by omega))
  rw [tonesL_eq s (n := n) (by omega) h4] at HI
  have hB := below_two w (.cells #[.int .i64 s] 3)
  generalize (tonesB n s).length = K at *
  clear h3 h4 hc62
  by_cases hj1 : 1 ≤ j
  · have hj2 : (K : Int) ≤ j := by omega
    clear hj
    go_enter Tryd.func17, Tryd.ntmps17
    go_wp2_with (first | (go_at_call 48; refine (HV.out _ _ _ (cell_at rfl)).mono ?_; rintro e w' ⟨rfl, rfl⟩) | (go_at_call 53; refine (HI.out _).mono ?_; rintro e w' ⟨rfl, rfl⟩))
    go_ret2
    exact ⟨rfl, hB⟩
  · clear hj
    go_enter Tryd.func17, Tryd.ntmps17
    go_wp2_with (go_at_call 48; refine (HV.out _ _ _ (cell_at rfl)).mono ?_; rintro e w' ⟨rfl, rfl⟩)
    go_ret2
    exact ⟨rfl, hB⟩

theorem Spans_ok (n s j : Nat) (h1 : 2 ≤ n) (h2 : n ≤ 16) (h3 : 1 ≤ s) (h4 : s < 2 ^ n) (hj1 : 1 ≤ j) (hj2 : j < (tonesB n s).length) (w : World) (hT : Tab w) :
    Calls Tryd.prog 17 #[.int .i64 n, .int .i64 s, .int .i64 j] w fun e w' => ∃ v, e = .returned (.tuple #[v, .int .i64 0]) ∧ ListAt w' w.heap.size v (spL n (tonesB n s) j) ∧ Below w.heap.size w w' := by
  have HV := Lib.hid (valid1 n s _ (vldB_of_nat h1 h2 h3 h4))
  have hc62 : s < 2 ^ 16 := Nat.lt_of_lt_of_le h4 (Nat.pow_le_pow_right (by omega) h2)
  have HI := Lib.hid (tonesIn_any s (by omega))
  rw [tonesL_eq s (n := n) (by omega) h4] at HI
  obtain ⟨W, hW⟩ : ∃ W, w.alloc (.cells #[.int .i64 s] 3) = W := ⟨_, rfl⟩
  have hB : Below w.heap.size w W := by rw [← hW]; exact below_two _ _
  have HT := Lib.hid (tones_slice n s h2 h4 h3 W (hT.same hB))
  have hpos := tonesB_pos h2 h3 h4
  have hle := tonesB_le n s
  have HC := Lib.hid (fun g cap V hg hc => different_any n _ j g cap _ (Spn.of h2 h3 h4 (by omega)) (spans_lt hpos hj2) V hg hc)
  generalize tonesB n s = ts at *
  obtain ⟨K, hK⟩ : ∃ K, ts.length = K := ⟨_, rfl⟩
  unfold ListAt at HT
  rw [hK] at HT HC HI hpos hj2
  have HW := Lib.hid hW
  clear hT h3 h4 hK hW hc62 hle
  generalize spL n ts j = l at HC
  go_enter Tryd.func17, Tryd.ntmps17
  go_wp2_with (first | (go_at_call 48; refine (HV.out _ _ _ (cell_at rfl)).mono ?_; rintro e w' ⟨rfl, rfl⟩) | (go_at_call 53; refine (HI.out _).mono ?_; rintro e w' ⟨rfl, rfl⟩))
  rw [HW.out]
  refine HT.out.mono ?_
  rintro e w2 ⟨_, rfl, ⟨g, cap, rfl, hg, hcap, hc⟩, hb2⟩
  have hgl : g < w2.heap.size := World.block_lt_of_cell? w2 _ (hc 0 hpos)
  have hB2 := hB.trans (hb2.mono hB.size)
  have hB3 : Below w2.heap.size w2 (w2.alloc (.cells #[.int .i64 n, .slice (some ⟨g, 0, none⟩) K cap, .int .i64 j] 50)) := below_two _ _
  have hC := Lib.hid (HC.out g cap _ (by have := hB3.size; omega) (fun i hi => cell_later hB3 (hc i hi)))
  have hB4 := hB2.trans (hB3.mono hB2.size)
  clear hc hb2 hgl
  go_wp2_with fail
  refine hC.out.mono ?_
  rintro e w3 ⟨v, rfl, hl, hb3⟩
  have hl' := Lib.hid (show ListAt w3 w.heap.size v l from by obtain ⟨g, c, e1, e2, e3, e4⟩ := hl; exact ⟨g, c, e1, by have := hB4.size; omega, e3, e4⟩)
  have hB5 := hB4.trans (hb3.mono hB4.size)
  clear hl
  go_wp2
  go_ret2
  exact ⟨v, rfl, hl'.out, hB5⟩

end Go.Proofs.YtmemnkmmjejlgaaDoor
