/-
  The statement on Tour and Tours.
-/
import Derived.Test.YtibkhjbcagihbaaTrToursRef
namespace Go.Proofs.Ytibkhjbcagihbaa
open Go.ChangeShapes Go.WideShapes Go.ChangeAt Go.RowKit
set_option maxRecDepth 100000

set_option maxHeartbeats 4000000 in
theorem TriadsTours_walk (n a b : Int) (s : ByteArray) (_ : (Lit.int .i64 n).wf = true) (_ : (Lit.int .i64 a).wf = true) (_ : (Lit.int .i64 b).wf = true) (hs : s.size ≤ maxLen) (w : World) :
    Calls Try.prog 8 #[kv n a b, .string s] w fun e w' => e = .returned (.bool true) ∧ Below w.heap.size w w' := by
  have HO := Lib.hid (Of_any n a b)
  have HTs := Lib.hid (text_any s)
  have HAw := Lib.hid awake_any
  have HVl := Lib.hid (RValid_any n a b)
  have HIs := Lib.hid (RIsWalk_any s hs)
  obtain ⟨W0, hW0⟩ : ∃ W0, w.alloc (rcells n a b) = W0 := ⟨_, rfl⟩
  have c0 : Below w.heap.size w W0 := by rw [← hW0]; exact (Below.refl _ w).alloc (Nat.le_refl _) _
  have k0 : W0.cell? ⟨w.heap.size, 0, none⟩ = some (.int .i64 n) := by rw [← hW0]; simp
  have k1 : W0.cell? ⟨w.heap.size, 1, none⟩ = some (.int .i64 a) := by rw [← hW0]; simp
  have k2 : W0.cell? ⟨w.heap.size, 2, none⟩ = some (.int .i64 b) := by rw [← hW0]; simp
  have hW := Lib.hid hW0
  clear hW0
  cases hb : kindB n a b
  · have HTo := Lib.hid (Tour_bad n a b (s.extract 0 (min s.size 70)) hb)
    have HTr := Lib.hid (Tours_bad n a b hb)
    rw [hb] at HVl
    clear hb
    go_enter Try.func8, Try.ntmps8
    go_wp2_with fail
    rw [hW.out]
    refine (HO.out _).mono ?_
    rintro e w1 ⟨rfl, b1⟩
    have c1 := below_nx c0 b1
    have k0 := cell_later b1 k0
    have k1 := cell_later b1 k1
    have k2 := cell_later b1 k2
    clear b1
    go_wp2_with fail
    refine (HTs.out _).mono ?_
    rintro e w91 ⟨rfl, rfl⟩
    go_wp2_with fail
    refine (HTo.out _).mono ?_
    rintro e w2 ⟨rfl, b2⟩
    have c2 := below_nx c1 b2
    have k0 := cell_later b2 k0
    have k1 := cell_later b2 k1
    have k2 := cell_later b2 k2
    clear b2
    go_wp2_with fail
    refine (HO.out _).mono ?_
    rintro e w3 ⟨rfl, b3⟩
    have c3 := below_nx c2 b3
    have k0 := cell_later b3 k0
    have k1 := cell_later b3 k1
    have k2 := cell_later b3 k2
    clear b3
    go_wp2_with fail
    refine (HTr.out _).mono ?_
    rintro e w4 ⟨rfl, b4⟩
    have c4 := below_nx c3 b4
    have k0 := cell_later b4 k0
    have k1 := cell_later b4 k1
    have k2 := cell_later b4 k2
    clear b4
    go_wp2_with fail
    refine (HVl.out _).mono ?_
    rintro e w5 ⟨rfl, b5⟩
    have c5 := below_nx c4 b5
    have k0 := cell_later b5 k0
    have k1 := cell_later b5 k1
    have k2 := cell_later b5 k2
    clear b5
    go_wp2_with fail
    refine (HAw.out _).mono ?_
    rintro e w6 ⟨rfl, b6⟩
    go_wp2
    go_ret
    exact ⟨rfl, below_nx c5 b6⟩
  · obtain ⟨n, a, b, rfl, rfl, rfl, hk⟩ := kindB_nat hb
    rw [hb] at HVl
    by_cases hn : n ≤ 12
    · have hnI : ¬ ((12 : Int) < (n : Int)) := by omega
      have HTv := Lib.hid (Tours_ok n a b hk hn)
      have HRv := Lib.hid (RTours_any n a b hk)
      have HTr : Hid (∀ w, Calls Try.prog 41 #[kv n a b] w fun e w' => (∃ v, e = .returned v ∧ ToursV n a b v) ∧ Below w.heap.size w w') := Lib.hid (fun w => (HTv.out w).mono fun e w' h => by obtain ⟨v, h1, h2, h3⟩ := h; exact ⟨⟨v, h1, h2⟩, h3⟩)
      have HRt : Hid (∀ v, ToursV n a b v → ∀ w, Calls Try.prog 42 #[kv n a b] w fun e w' => e = .returned v ∧ Below w.heap.size w w') := Lib.hid (fun v hv w => (HRv.out w).mono fun e w' h => by obtain ⟨u, h1, h2, h3⟩ := h; exact ⟨by rw [h1, h2.uniq hv], h3⟩)
      clear HTv HRv
      cases hws : walkB s
      · have HTo := Lib.hid (Tour_form n a b hk (s.extract 0 (min s.size 70)) (text_size s hs) ((text_walk s).1.trans hws))
        rw [hws] at HIs
        clear hb hws
        go_enter Try.func8, Try.ntmps8
        go_wp2_with fail
        rw [hW.out]
        refine (HO.out _).mono ?_
        rintro e w1 ⟨rfl, b1⟩
        have c1 := below_nx c0 b1
        have k0 := cell_later b1 k0
        have k1 := cell_later b1 k1
        have k2 := cell_later b1 k2
        clear b1
        go_wp2_with fail
        refine (HTs.out _).mono ?_
        rintro e w91 ⟨rfl, rfl⟩
        go_wp2_with fail
        refine (HTo.out _).mono ?_
        rintro e w2 ⟨rfl, b2⟩
        have c2 := below_nx c1 b2
        have k0 := cell_later b2 k0
        have k1 := cell_later b2 k1
        have k2 := cell_later b2 k2
        clear b2
        go_wp2_with fail
        refine (HO.out _).mono ?_
        rintro e w3 ⟨rfl, b3⟩
        have c3 := below_nx c2 b3
        have k0 := cell_later b3 k0
        have k1 := cell_later b3 k1
        have k2 := cell_later b3 k2
        clear b3
        go_wp2_with fail
        refine (HTr.out _).mono ?_
        rintro e w4 ⟨⟨v, rfl, hv⟩, b4⟩
        have c4 := below_nx c3 b4
        have k0 := cell_later b4 k0
        have k1 := cell_later b4 k1
        have k2 := cell_later b4 k2
        clear b4
        obtain ⟨sv, ev, rfl⟩ := hv.form
        have HR1 := Lib.hid (HRt.out _ hv)
        clear hv
        go_wp2_with fail
        refine (HVl.out _).mono ?_
        rintro e w5 ⟨rfl, b5⟩
        have c5 := below_nx c4 b5
        have k0 := cell_later b5 k0
        have k1 := cell_later b5 k1
        have k2 := cell_later b5 k2
        clear b5
        go_wp2_with fail
        refine (HR1.out _).mono ?_
        rintro e w6 ⟨rfl, b6⟩
        have c6 := below_nx c5 b6
        have k0 := cell_later b6 k0
        have k1 := cell_later b6 k1
        have k2 := cell_later b6 k2
        clear b6
        go_wp2_with fail
        refine (HIs.out _).mono ?_
        rintro e w96 ⟨rfl, rfl⟩
        go_wp2_with fail
        refine (HAw.out _).mono ?_
        rintro e w7 ⟨rfl, b7⟩
        go_wp2
        go_ret
        exact ⟨rfl, below_nx c6 b7⟩
      · have HTo := Lib.hid (Tour_ok n a b hk s hs hws)
        have hsz := (walkB_let hws).2
        have HRT := Lib.hid (RTour_any n a b hk s (by omega))
        have hte := (text_walk s).2 hws
        rw [hte] at HTs
        rw [hws] at HIs
        clear hb hws hte hsz
        cases tourB n a b (bsN s)
        · go_enter Try.func8, Try.ntmps8
          go_wp2_with fail
          rw [hW.out]
          refine (HO.out _).mono ?_
          rintro e w1 ⟨rfl, b1⟩
          have c1 := below_nx c0 b1
          have k0 := cell_later b1 k0
          have k1 := cell_later b1 k1
          have k2 := cell_later b1 k2
          clear b1
          go_wp2_with fail
          refine (HTs.out _).mono ?_
          rintro e w91 ⟨rfl, rfl⟩
          go_wp2_with fail
          refine (HTo.out _).mono ?_
          rintro e w2 ⟨rfl, b2⟩
          have c2 := below_nx c1 b2
          have k0 := cell_later b2 k0
          have k1 := cell_later b2 k1
          have k2 := cell_later b2 k2
          clear b2
          go_wp2_with fail
          refine (HO.out _).mono ?_
          rintro e w3 ⟨rfl, b3⟩
          have c3 := below_nx c2 b3
          have k0 := cell_later b3 k0
          have k1 := cell_later b3 k1
          have k2 := cell_later b3 k2
          clear b3
          go_wp2_with fail
          refine (HTr.out _).mono ?_
          rintro e w4 ⟨⟨v, rfl, hv⟩, b4⟩
          have c4 := below_nx c3 b4
          have k0 := cell_later b4 k0
          have k1 := cell_later b4 k1
          have k2 := cell_later b4 k2
          clear b4
          obtain ⟨sv, ev, rfl⟩ := hv.form
          have HR1 := Lib.hid (HRt.out _ hv)
          clear hv
          go_wp2_with fail
          refine (HVl.out _).mono ?_
          rintro e w5 ⟨rfl, b5⟩
          have c5 := below_nx c4 b5
          have k0 := cell_later b5 k0
          have k1 := cell_later b5 k1
          have k2 := cell_later b5 k2
          clear b5
          go_wp2_with fail
          refine (HR1.out _).mono ?_
          rintro e w6 ⟨rfl, b6⟩
          have c6 := below_nx c5 b6
          have k0 := cell_later b6 k0
          have k1 := cell_later b6 k1
          have k2 := cell_later b6 k2
          clear b6
          go_wp2_with fail
          refine (HIs.out _).mono ?_
          rintro e w96 ⟨rfl, rfl⟩
          go_wp2_with fail
          refine (HRT.out _).mono ?_
          rintro e w7 ⟨rfl, b7⟩
          have c7 := below_nx c6 b7
          have k0 := cell_later b7 k0
          have k1 := cell_later b7 k1
          have k2 := cell_later b7 k2
          clear b7
          go_wp2_with fail
          refine (HAw.out _).mono ?_
          rintro e w8 ⟨rfl, b8⟩
          go_wp2
          go_ret
          exact ⟨rfl, below_nx c7 b8⟩
        · go_enter Try.func8, Try.ntmps8
          go_wp2_with fail
          rw [hW.out]
          refine (HO.out _).mono ?_
          rintro e w1 ⟨rfl, b1⟩
          have c1 := below_nx c0 b1
          have k0 := cell_later b1 k0
          have k1 := cell_later b1 k1
          have k2 := cell_later b1 k2
          clear b1
          go_wp2_with fail
          refine (HTs.out _).mono ?_
          rintro e w91 ⟨rfl, rfl⟩
          go_wp2_with fail
          refine (HTo.out _).mono ?_
          rintro e w2 ⟨rfl, b2⟩
          have c2 := below_nx c1 b2
          have k0 := cell_later b2 k0
          have k1 := cell_later b2 k1
          have k2 := cell_later b2 k2
          clear b2
          go_wp2_with fail
          refine (HO.out _).mono ?_
          rintro e w3 ⟨rfl, b3⟩
          have c3 := below_nx c2 b3
          have k0 := cell_later b3 k0
          have k1 := cell_later b3 k1
          have k2 := cell_later b3 k2
          clear b3
          go_wp2_with fail
          refine (HTr.out _).mono ?_
          rintro e w4 ⟨⟨v, rfl, hv⟩, b4⟩
          have c4 := below_nx c3 b4
          have k0 := cell_later b4 k0
          have k1 := cell_later b4 k1
          have k2 := cell_later b4 k2
          clear b4
          obtain ⟨sv, ev, rfl⟩ := hv.form
          have HR1 := Lib.hid (HRt.out _ hv)
          clear hv
          go_wp2_with fail
          refine (HVl.out _).mono ?_
          rintro e w5 ⟨rfl, b5⟩
          have c5 := below_nx c4 b5
          have k0 := cell_later b5 k0
          have k1 := cell_later b5 k1
          have k2 := cell_later b5 k2
          clear b5
          go_wp2_with fail
          refine (HR1.out _).mono ?_
          rintro e w6 ⟨rfl, b6⟩
          have c6 := below_nx c5 b6
          have k0 := cell_later b6 k0
          have k1 := cell_later b6 k1
          have k2 := cell_later b6 k2
          clear b6
          go_wp2_with fail
          refine (HIs.out _).mono ?_
          rintro e w96 ⟨rfl, rfl⟩
          go_wp2_with fail
          refine (HRT.out _).mono ?_
          rintro e w7 ⟨rfl, b7⟩
          have c7 := below_nx c6 b7
          have k0 := cell_later b7 k0
          have k1 := cell_later b7 k1
          have k2 := cell_later b7 k2
          clear b7
          go_wp2_with fail
          refine (HAw.out _).mono ?_
          rintro e w8 ⟨rfl, b8⟩
          go_wp2
          go_ret
          exact ⟨rfl, below_nx c7 b8⟩
    · have hnI : ((12 : Int) < (n : Int)) := by omega
      have HTr := Lib.hid (Tours_big n a b hk (by omega))
      cases hws : walkB s
      · have HTo := Lib.hid (Tour_form n a b hk (s.extract 0 (min s.size 70)) (text_size s hs) ((text_walk s).1.trans hws))
        rw [hws] at HIs
        clear hb hws
        go_enter Try.func8, Try.ntmps8
        go_wp2_with fail
        rw [hW.out]
        refine (HO.out _).mono ?_
        rintro e w1 ⟨rfl, b1⟩
        have c1 := below_nx c0 b1
        have k0 := cell_later b1 k0
        have k1 := cell_later b1 k1
        have k2 := cell_later b1 k2
        clear b1
        go_wp2_with fail
        refine (HTs.out _).mono ?_
        rintro e w91 ⟨rfl, rfl⟩
        go_wp2_with fail
        refine (HTo.out _).mono ?_
        rintro e w2 ⟨rfl, b2⟩
        have c2 := below_nx c1 b2
        have k0 := cell_later b2 k0
        have k1 := cell_later b2 k1
        have k2 := cell_later b2 k2
        clear b2
        go_wp2_with fail
        refine (HO.out _).mono ?_
        rintro e w3 ⟨rfl, b3⟩
        have c3 := below_nx c2 b3
        have k0 := cell_later b3 k0
        have k1 := cell_later b3 k1
        have k2 := cell_later b3 k2
        clear b3
        go_wp2_with fail
        refine (HTr.out _).mono ?_
        rintro e w4 ⟨rfl, b4⟩
        have c4 := below_nx c3 b4
        have k0 := cell_later b4 k0
        have k1 := cell_later b4 k1
        have k2 := cell_later b4 k2
        clear b4
        go_wp2_with fail
        refine (HVl.out _).mono ?_
        rintro e w5 ⟨rfl, b5⟩
        have c5 := below_nx c4 b5
        have k0 := cell_later b5 k0
        have k1 := cell_later b5 k1
        have k2 := cell_later b5 k2
        clear b5
        go_wp2_with fail
        refine (HIs.out _).mono ?_
        rintro e w95 ⟨rfl, rfl⟩
        go_wp2_with fail
        refine (HAw.out _).mono ?_
        rintro e w6 ⟨rfl, b6⟩
        go_wp2
        go_ret
        exact ⟨rfl, below_nx c5 b6⟩
      · have HTo := Lib.hid (Tour_ok n a b hk s hs hws)
        have hsz := (walkB_let hws).2
        have HRT := Lib.hid (RTour_any n a b hk s (by omega))
        have hte := (text_walk s).2 hws
        rw [hte] at HTs
        rw [hws] at HIs
        clear hb hws hte hsz
        cases tourB n a b (bsN s)
        · go_enter Try.func8, Try.ntmps8
          go_wp2_with fail
          rw [hW.out]
          refine (HO.out _).mono ?_
          rintro e w1 ⟨rfl, b1⟩
          have c1 := below_nx c0 b1
          have k0 := cell_later b1 k0
          have k1 := cell_later b1 k1
          have k2 := cell_later b1 k2
          clear b1
          go_wp2_with fail
          refine (HTs.out _).mono ?_
          rintro e w91 ⟨rfl, rfl⟩
          go_wp2_with fail
          refine (HTo.out _).mono ?_
          rintro e w2 ⟨rfl, b2⟩
          have c2 := below_nx c1 b2
          have k0 := cell_later b2 k0
          have k1 := cell_later b2 k1
          have k2 := cell_later b2 k2
          clear b2
          go_wp2_with fail
          refine (HO.out _).mono ?_
          rintro e w3 ⟨rfl, b3⟩
          have c3 := below_nx c2 b3
          have k0 := cell_later b3 k0
          have k1 := cell_later b3 k1
          have k2 := cell_later b3 k2
          clear b3
          go_wp2_with fail
          refine (HTr.out _).mono ?_
          rintro e w4 ⟨rfl, b4⟩
          have c4 := below_nx c3 b4
          have k0 := cell_later b4 k0
          have k1 := cell_later b4 k1
          have k2 := cell_later b4 k2
          clear b4
          go_wp2_with fail
          refine (HVl.out _).mono ?_
          rintro e w5 ⟨rfl, b5⟩
          have c5 := below_nx c4 b5
          have k0 := cell_later b5 k0
          have k1 := cell_later b5 k1
          have k2 := cell_later b5 k2
          clear b5
          go_wp2_with fail
          refine (HIs.out _).mono ?_
          rintro e w95 ⟨rfl, rfl⟩
          go_wp2_with fail
          refine (HRT.out _).mono ?_
          rintro e w6 ⟨rfl, b6⟩
          have c6 := below_nx c5 b6
          have k0 := cell_later b6 k0
          have k1 := cell_later b6 k1
          have k2 := cell_later b6 k2
          clear b6
          go_wp2_with fail
          refine (HAw.out _).mono ?_
          rintro e w7 ⟨rfl, b7⟩
          go_wp2
          go_ret
          exact ⟨rfl, below_nx c6 b7⟩
        · go_enter Try.func8, Try.ntmps8
          go_wp2_with fail
          rw [hW.out]
          refine (HO.out _).mono ?_
          rintro e w1 ⟨rfl, b1⟩
          have c1 := below_nx c0 b1
          have k0 := cell_later b1 k0
          have k1 := cell_later b1 k1
          have k2 := cell_later b1 k2
          clear b1
          go_wp2_with fail
          refine (HTs.out _).mono ?_
          rintro e w91 ⟨rfl, rfl⟩
          go_wp2_with fail
          refine (HTo.out _).mono ?_
          rintro e w2 ⟨rfl, b2⟩
          have c2 := below_nx c1 b2
          have k0 := cell_later b2 k0
          have k1 := cell_later b2 k1
          have k2 := cell_later b2 k2
          clear b2
          go_wp2_with fail
          refine (HO.out _).mono ?_
          rintro e w3 ⟨rfl, b3⟩
          have c3 := below_nx c2 b3
          have k0 := cell_later b3 k0
          have k1 := cell_later b3 k1
          have k2 := cell_later b3 k2
          clear b3
          go_wp2_with fail
          refine (HTr.out _).mono ?_
          rintro e w4 ⟨rfl, b4⟩
          have c4 := below_nx c3 b4
          have k0 := cell_later b4 k0
          have k1 := cell_later b4 k1
          have k2 := cell_later b4 k2
          clear b4
          go_wp2_with fail
          refine (HVl.out _).mono ?_
          rintro e w5 ⟨rfl, b5⟩
          have c5 := below_nx c4 b5
          have k0 := cell_later b5 k0
          have k1 := cell_later b5 k1
          have k2 := cell_later b5 k2
          clear b5
          go_wp2_with fail
          refine (HIs.out _).mono ?_
          rintro e w95 ⟨rfl, rfl⟩
          go_wp2_with fail
          refine (HRT.out _).mono ?_
          rintro e w6 ⟨rfl, b6⟩
          have c6 := below_nx c5 b6
          have k0 := cell_later b6 k0
          have k1 := cell_later b6 k1
          have k2 := cell_later b6 k2
          clear b6
          go_wp2_with fail
          refine (HAw.out _).mono ?_
          rintro e w7 ⟨rfl, b7⟩
          go_wp2
          go_ret
          exact ⟨rfl, below_nx c6 b7⟩
end Go.Proofs.Ytibkhjbcagihbaa
