/-
  The statement on Alike, Order and Size.
-/
import Derived.Test.YtibkhjbcagihbaaTrSizeRef2
namespace Go.Proofs.Ytibkhjbcagihbaa
open Go.ChangeShapes Go.WideShapes Go.ChangeAt Go.RowKit
set_option maxRecDepth 100000

set_option maxHeartbeats 4000000 in
theorem TriadsAlike_walk (n a b : Int) (s u : ByteArray) (_ : (Lit.int .i64 n).wf = true) (_ : (Lit.int .i64 a).wf = true) (_ : (Lit.int .i64 b).wf = true) (hs : s.size ≤ maxLen) (hu : u.size ≤ maxLen) (w : World) :
    Calls Try.prog 6 #[kv n a b, .string s, .string u] w fun e w' => e = .returned (.bool true) ∧ Below w.heap.size w w' := by
  have HO := Lib.hid (Of_any n a b)
  have HTs := Lib.hid (text_any s)
  have HTu := Lib.hid (text_any u)
  have HAw := Lib.hid awake_any
  have HVl := Lib.hid (RValid_any n a b)
  have HIs := Lib.hid (RIsWalk_any s hs)
  have HIu := Lib.hid (RIsWalk_any u hu)
  obtain ⟨W0, hW0⟩ : ∃ W0, w.alloc (rcells n a b) = W0 := ⟨_, rfl⟩
  have c0 : Below w.heap.size w W0 := by rw [← hW0]; exact (Below.refl _ w).alloc (Nat.le_refl _) _
  have k0 : W0.cell? ⟨w.heap.size, 0, none⟩ = some (.int .i64 n) := by rw [← hW0]; simp
  have k1 : W0.cell? ⟨w.heap.size, 1, none⟩ = some (.int .i64 a) := by rw [← hW0]; simp
  have k2 : W0.cell? ⟨w.heap.size, 2, none⟩ = some (.int .i64 b) := by rw [← hW0]; simp
  have hW := Lib.hid hW0
  clear hW0
  cases hb : kindB n a b
  · have HAl := Lib.hid (Alike_bad n a b (s.extract 0 (min s.size 70)) (u.extract 0 (min u.size 70)) hb)
    have HOr := Lib.hid (Order_bad n a b (s.extract 0 (min s.size 70)) hb)
    have HSz := Lib.hid (Size_bad n a b hb)
    rw [hb] at HVl
    clear hb
    go_enter Try.func6, Try.ntmps6
    go_wp2_with fail
    rw [hW.out]
    refine (HO.out _).mono ?_
    rintro e w1 ⟨rfl, b1⟩
    have c1 := below_nx c0 b1
    have k0 := cell_later b1 k0
    have k1 := cell_later b1 k1
    have k2 := cell_later b1 k2
    clear b1
    go_wp2_with fail
    refine (HTs.out _).mono ?_
    rintro e w91 ⟨rfl, rfl⟩
    go_wp2_with fail
    refine (HTu.out _).mono ?_
    rintro e w91 ⟨rfl, rfl⟩
    go_wp2_with fail
    refine (HAl.out _).mono ?_
    rintro e w2 ⟨rfl, b2⟩
    have c2 := below_nx c1 b2
    have k0 := cell_later b2 k0
    have k1 := cell_later b2 k1
    have k2 := cell_later b2 k2
    clear b2
    go_wp2_with fail
    refine (HO.out _).mono ?_
    rintro e w3 ⟨rfl, b3⟩
    have c3 := below_nx c2 b3
    have k0 := cell_later b3 k0
    have k1 := cell_later b3 k1
    have k2 := cell_later b3 k2
    clear b3
    go_wp2_with fail
    refine (HTs.out _).mono ?_
    rintro e w93 ⟨rfl, rfl⟩
    go_wp2_with fail
    refine (HOr.out _).mono ?_
    rintro e w4 ⟨rfl, b4⟩
    have c4 := below_nx c3 b4
    have k0 := cell_later b4 k0
    have k1 := cell_later b4 k1
    have k2 := cell_later b4 k2
    clear b4
    go_wp2_with fail
    refine (HO.out _).mono ?_
    rintro e w5 ⟨rfl, b5⟩
    have c5 := below_nx c4 b5
    have k0 := cell_later b5 k0
    have k1 := cell_later b5 k1
    have k2 := cell_later b5 k2
    clear b5
    go_wp2_with fail
    refine (HSz.out _).mono ?_
    rintro e w6 ⟨rfl, b6⟩
    have c6 := below_nx c5 b6
    have k0 := cell_later b6 k0
    have k1 := cell_later b6 k1
    have k2 := cell_later b6 k2
    clear b6
    go_wp2_with fail
    refine (HVl.out _).mono ?_
    rintro e w7 ⟨rfl, b7⟩
    have c7 := below_nx c6 b7
    have k0 := cell_later b7 k0
    have k1 := cell_later b7 k1
    have k2 := cell_later b7 k2
    clear b7
    go_wp2_with fail
    refine (HAw.out _).mono ?_
    rintro e w8 ⟨rfl, b8⟩
    go_wp2
    go_ret
    exact ⟨rfl, below_nx c7 b8⟩
  · obtain ⟨n, a, b, rfl, rfl, rfl, hk⟩ := kindB_nat hb
    rw [hb] at HVl
    have HSz := Lib.hid (Size_ok n a b hk)
    have HRS := Lib.hid (RSize_any n a b hk)
    generalize (bfsA n a b 0).length = M at HSz HRS
    cases hws : walkB s
    · have HAl := Lib.hid (Alike_form n a b hk (s.extract 0 (min s.size 70)) (u.extract 0 (min u.size 70)) (text_size s hs) (text_size u hu) (Or.inl ((text_walk s).1.trans hws)))
      have HOr := Lib.hid (Order_form n a b hk (s.extract 0 (min s.size 70)) (text_size s hs) ((text_walk s).1.trans hws))
      rw [hws] at HIs
      clear hb hws
      go_enter Try.func6, Try.ntmps6
      go_wp2_with fail
      rw [hW.out]
      refine (HO.out _).mono ?_
      rintro e w1 ⟨rfl, b1⟩
      have c1 := below_nx c0 b1
      have k0 := cell_later b1 k0
      have k1 := cell_later b1 k1
      have k2 := cell_later b1 k2
      clear b1
      go_wp2_with fail
      refine (HTs.out _).mono ?_
      rintro e w91 ⟨rfl, rfl⟩
      go_wp2_with fail
      refine (HTu.out _).mono ?_
      rintro e w91 ⟨rfl, rfl⟩
      go_wp2_with fail
      refine (HAl.out _).mono ?_
      rintro e w2 ⟨rfl, b2⟩
      have c2 := below_nx c1 b2
      have k0 := cell_later b2 k0
      have k1 := cell_later b2 k1
      have k2 := cell_later b2 k2
      clear b2
      go_wp2_with fail
      refine (HO.out _).mono ?_
      rintro e w3 ⟨rfl, b3⟩
      have c3 := below_nx c2 b3
      have k0 := cell_later b3 k0
      have k1 := cell_later b3 k1
      have k2 := cell_later b3 k2
      clear b3
      go_wp2_with fail
      refine (HTs.out _).mono ?_
      rintro e w93 ⟨rfl, rfl⟩
      go_wp2_with fail
      refine (HOr.out _).mono ?_
      rintro e w4 ⟨rfl, b4⟩
      have c4 := below_nx c3 b4
      have k0 := cell_later b4 k0
      have k1 := cell_later b4 k1
      have k2 := cell_later b4 k2
      clear b4
      go_wp2_with fail
      refine (HO.out _).mono ?_
      rintro e w5 ⟨rfl, b5⟩
      have c5 := below_nx c4 b5
      have k0 := cell_later b5 k0
      have k1 := cell_later b5 k1
      have k2 := cell_later b5 k2
      clear b5
      go_wp2_with fail
      refine (HSz.out _).mono ?_
      rintro e w6 ⟨rfl, b6⟩
      have c6 := below_nx c5 b6
      have k0 := cell_later b6 k0
      have k1 := cell_later b6 k1
      have k2 := cell_later b6 k2
      clear b6
      go_wp2_with fail
      refine (HVl.out _).mono ?_
      rintro e w7 ⟨rfl, b7⟩
      have c7 := below_nx c6 b7
      have k0 := cell_later b7 k0
      have k1 := cell_later b7 k1
      have k2 := cell_later b7 k2
      clear b7
      go_wp2_with fail
      refine (HRS.out _).mono ?_
      rintro e w8 ⟨rfl, b8⟩
      have c8 := below_nx c7 b8
      have k0 := cell_later b8 k0
      have k1 := cell_later b8 k1
      have k2 := cell_later b8 k2
      clear b8
      go_wp2_with fail
      refine (HAw.out _).mono ?_
      rintro e w9 ⟨rfl, b9⟩
      have c9 := below_nx c8 b9
      have k0 := cell_later b9 k0
      have k1 := cell_later b9 k1
      have k2 := cell_later b9 k2
      clear b9
      go_wp2_with fail
      refine (HIs.out _).mono ?_
      rintro e w99 ⟨rfl, rfl⟩
      go_wp2
      go_ret
      exact ⟨rfl, c9⟩
    · obtain ⟨K, hK, _⟩ := ordW_exists hk (bsN s)
      have HOr := Lib.hid (Order_ok n a b hk s hs hws K hK)
      have HRO := Lib.hid (ROrder_any n a b hk s hs K hK)
      have hte := (text_walk s).2 hws
      rw [hte] at HTs
      rw [hws] at HIs
      cases hwu : walkB u
      · have HAl := Lib.hid (Alike_form n a b hk s (u.extract 0 (min u.size 70)) hs (text_size u hu) (Or.inr ((text_walk u).1.trans hwu)))
        rw [hwu] at HIu
        clear hb hws hwu hK hte
        go_enter Try.func6, Try.ntmps6
        go_wp2_with fail
        rw [hW.out]
        refine (HO.out _).mono ?_
        rintro e w1 ⟨rfl, b1⟩
        have c1 := below_nx c0 b1
        have k0 := cell_later b1 k0
        have k1 := cell_later b1 k1
        have k2 := cell_later b1 k2
        clear b1
        go_wp2_with fail
        refine (HTs.out _).mono ?_
        rintro e w91 ⟨rfl, rfl⟩
        go_wp2_with fail
        refine (HTu.out _).mono ?_
        rintro e w91 ⟨rfl, rfl⟩
        go_wp2_with fail
        refine (HAl.out _).mono ?_
        rintro e w2 ⟨rfl, b2⟩
        have c2 := below_nx c1 b2
        have k0 := cell_later b2 k0
        have k1 := cell_later b2 k1
        have k2 := cell_later b2 k2
        clear b2
        go_wp2_with fail
        refine (HO.out _).mono ?_
        rintro e w3 ⟨rfl, b3⟩
        have c3 := below_nx c2 b3
        have k0 := cell_later b3 k0
        have k1 := cell_later b3 k1
        have k2 := cell_later b3 k2
        clear b3
        go_wp2_with fail
        refine (HTs.out _).mono ?_
        rintro e w93 ⟨rfl, rfl⟩
        go_wp2_with fail
        refine (HOr.out _).mono ?_
        rintro e w4 ⟨rfl, b4⟩
        have c4 := below_nx c3 b4
        have k0 := cell_later b4 k0
        have k1 := cell_later b4 k1
        have k2 := cell_later b4 k2
        clear b4
        go_wp2_with fail
        refine (HO.out _).mono ?_
        rintro e w5 ⟨rfl, b5⟩
        have c5 := below_nx c4 b5
        have k0 := cell_later b5 k0
        have k1 := cell_later b5 k1
        have k2 := cell_later b5 k2
        clear b5
        go_wp2_with fail
        refine (HSz.out _).mono ?_
        rintro e w6 ⟨rfl, b6⟩
        have c6 := below_nx c5 b6
        have k0 := cell_later b6 k0
        have k1 := cell_later b6 k1
        have k2 := cell_later b6 k2
        clear b6
        go_wp2_with fail
        refine (HVl.out _).mono ?_
        rintro e w7 ⟨rfl, b7⟩
        have c7 := below_nx c6 b7
        have k0 := cell_later b7 k0
        have k1 := cell_later b7 k1
        have k2 := cell_later b7 k2
        clear b7
        go_wp2_with fail
        refine (HRS.out _).mono ?_
        rintro e w8 ⟨rfl, b8⟩
        have c8 := below_nx c7 b8
        have k0 := cell_later b8 k0
        have k1 := cell_later b8 k1
        have k2 := cell_later b8 k2
        clear b8
        go_wp2_with fail
        refine (HAw.out _).mono ?_
        rintro e w9 ⟨rfl, b9⟩
        have c9 := below_nx c8 b9
        have k0 := cell_later b9 k0
        have k1 := cell_later b9 k1
        have k2 := cell_later b9 k2
        clear b9
        go_wp2_with fail
        refine (HIs.out _).mono ?_
        rintro e w99 ⟨rfl, rfl⟩
        go_wp2_with fail
        refine (HRO.out _).mono ?_
        rintro e w10 ⟨rfl, b10⟩
        have c10 := below_nx c9 b10
        have k0 := cell_later b10 k0
        have k1 := cell_later b10 k1
        have k2 := cell_later b10 k2
        clear b10
        go_wp2_with fail
        refine (HIu.out _).mono ?_
        rintro e w910 ⟨rfl, rfl⟩
        go_wp2
        go_ret
        exact ⟨rfl, c10⟩
      · have HAl := Lib.hid (Alike_ok n a b hk s u hs hu hws hwu)
        have HRA := Lib.hid (RAlike_any n a b hk s u hs hu)
        have hteu := (text_walk u).2 hwu
        rw [hteu] at HTu
        rw [hwu] at HIu
        clear hb hws hwu hK hte hteu
        cases sameW n a b (bsN s) (bsN u)
        · go_enter Try.func6, Try.ntmps6
          go_wp2_with fail
          rw [hW.out]
          refine (HO.out _).mono ?_
          rintro e w1 ⟨rfl, b1⟩
          have c1 := below_nx c0 b1
          have k0 := cell_later b1 k0
          have k1 := cell_later b1 k1
          have k2 := cell_later b1 k2
          clear b1
          go_wp2_with fail
          refine (HTs.out _).mono ?_
          rintro e w91 ⟨rfl, rfl⟩
          go_wp2_with fail
          refine (HTu.out _).mono ?_
          rintro e w91 ⟨rfl, rfl⟩
          go_wp2_with fail
          refine (HAl.out _).mono ?_
          rintro e w2 ⟨rfl, b2⟩
          have c2 := below_nx c1 b2
          have k0 := cell_later b2 k0
          have k1 := cell_later b2 k1
          have k2 := cell_later b2 k2
          clear b2
          go_wp2_with fail
          refine (HO.out _).mono ?_
          rintro e w3 ⟨rfl, b3⟩
          have c3 := below_nx c2 b3
          have k0 := cell_later b3 k0
          have k1 := cell_later b3 k1
          have k2 := cell_later b3 k2
          clear b3
          go_wp2_with fail
          refine (HTs.out _).mono ?_
          rintro e w93 ⟨rfl, rfl⟩
          go_wp2_with fail
          refine (HOr.out _).mono ?_
          rintro e w4 ⟨rfl, b4⟩
          have c4 := below_nx c3 b4
          have k0 := cell_later b4 k0
          have k1 := cell_later b4 k1
          have k2 := cell_later b4 k2
          clear b4
          go_wp2_with fail
          refine (HO.out _).mono ?_
          rintro e w5 ⟨rfl, b5⟩
          have c5 := below_nx c4 b5
          have k0 := cell_later b5 k0
          have k1 := cell_later b5 k1
          have k2 := cell_later b5 k2
          clear b5
          go_wp2_with fail
          refine (HSz.out _).mono ?_
          rintro e w6 ⟨rfl, b6⟩
          have c6 := below_nx c5 b6
          have k0 := cell_later b6 k0
          have k1 := cell_later b6 k1
          have k2 := cell_later b6 k2
          clear b6
          go_wp2_with fail
          refine (HVl.out _).mono ?_
          rintro e w7 ⟨rfl, b7⟩
          have c7 := below_nx c6 b7
          have k0 := cell_later b7 k0
          have k1 := cell_later b7 k1
          have k2 := cell_later b7 k2
          clear b7
          go_wp2_with fail
          refine (HRS.out _).mono ?_
          rintro e w8 ⟨rfl, b8⟩
          have c8 := below_nx c7 b8
          have k0 := cell_later b8 k0
          have k1 := cell_later b8 k1
          have k2 := cell_later b8 k2
          clear b8
          go_wp2_with fail
          refine (HAw.out _).mono ?_
          rintro e w9 ⟨rfl, b9⟩
          have c9 := below_nx c8 b9
          have k0 := cell_later b9 k0
          have k1 := cell_later b9 k1
          have k2 := cell_later b9 k2
          clear b9
          go_wp2_with fail
          refine (HIs.out _).mono ?_
          rintro e w99 ⟨rfl, rfl⟩
          go_wp2_with fail
          refine (HRO.out _).mono ?_
          rintro e w10 ⟨rfl, b10⟩
          have c10 := below_nx c9 b10
          have k0 := cell_later b10 k0
          have k1 := cell_later b10 k1
          have k2 := cell_later b10 k2
          clear b10
          go_wp2_with fail
          refine (HIu.out _).mono ?_
          rintro e w910 ⟨rfl, rfl⟩
          go_wp2_with fail
          refine (HRA.out _).mono ?_
          rintro e w11 ⟨rfl, b11⟩
          go_wp2
          go_ret
          exact ⟨rfl, below_nx c10 b11⟩
        · go_enter Try.func6, Try.ntmps6
          go_wp2_with fail
          rw [hW.out]
          refine (HO.out _).mono ?_
          rintro e w1 ⟨rfl, b1⟩
          have c1 := below_nx c0 b1
          have k0 := cell_later b1 k0
          have k1 := cell_later b1 k1
          have k2 := cell_later b1 k2
          clear b1
          go_wp2_with fail
          refine (HTs.out _).mono ?_
          rintro e w91 ⟨rfl, rfl⟩
          go_wp2_with fail
          refine (HTu.out _).mono ?_
          rintro e w91 ⟨rfl, rfl⟩
          go_wp2_with fail
          refine (HAl.out _).mono ?_
          rintro e w2 ⟨rfl, b2⟩
          have c2 := below_nx c1 b2
          have k0 := cell_later b2 k0
          have k1 := cell_later b2 k1
          have k2 := cell_later b2 k2
          clear b2
          go_wp2_with fail
          refine (HO.out _).mono ?_
          rintro e w3 ⟨rfl, b3⟩
          have c3 := below_nx c2 b3
          have k0 := cell_later b3 k0
          have k1 := cell_later b3 k1
          have k2 := cell_later b3 k2
          clear b3
          go_wp2_with fail
          refine (HTs.out _).mono ?_
          rintro e w93 ⟨rfl, rfl⟩
          go_wp2_with fail
          refine (HOr.out _).mono ?_
          rintro e w4 ⟨rfl, b4⟩
          have c4 := below_nx c3 b4
          have k0 := cell_later b4 k0
          have k1 := cell_later b4 k1
          have k2 := cell_later b4 k2
          clear b4
          go_wp2_with fail
          refine (HO.out _).mono ?_
          rintro e w5 ⟨rfl, b5⟩
          have c5 := below_nx c4 b5
          have k0 := cell_later b5 k0
          have k1 := cell_later b5 k1
          have k2 := cell_later b5 k2
          clear b5
          go_wp2_with fail
          refine (HSz.out _).mono ?_
          rintro e w6 ⟨rfl, b6⟩
          have c6 := below_nx c5 b6
          have k0 := cell_later b6 k0
          have k1 := cell_later b6 k1
          have k2 := cell_later b6 k2
          clear b6
          go_wp2_with fail
          refine (HVl.out _).mono ?_
          rintro e w7 ⟨rfl, b7⟩
          have c7 := below_nx c6 b7
          have k0 := cell_later b7 k0
          have k1 := cell_later b7 k1
          have k2 := cell_later b7 k2
          clear b7
          go_wp2_with fail
          refine (HRS.out _).mono ?_
          rintro e w8 ⟨rfl, b8⟩
          have c8 := below_nx c7 b8
          have k0 := cell_later b8 k0
          have k1 := cell_later b8 k1
          have k2 := cell_later b8 k2
          clear b8
          go_wp2_with fail
          refine (HAw.out _).mono ?_
          rintro e w9 ⟨rfl, b9⟩
          have c9 := below_nx c8 b9
          have k0 := cell_later b9 k0
          have k1 := cell_later b9 k1
          have k2 := cell_later b9 k2
          clear b9
          go_wp2_with fail
          refine (HIs.out _).mono ?_
          rintro e w99 ⟨rfl, rfl⟩
          go_wp2_with fail
          refine (HRO.out _).mono ?_
          rintro e w10 ⟨rfl, b10⟩
          have c10 := below_nx c9 b10
          have k0 := cell_later b10 k0
          have k1 := cell_later b10 k1
          have k2 := cell_later b10 k2
          clear b10
          go_wp2_with fail
          refine (HIu.out _).mono ?_
          rintro e w910 ⟨rfl, rfl⟩
          go_wp2_with fail
          refine (HRA.out _).mono ?_
          rintro e w11 ⟨rfl, b11⟩
          go_wp2
          go_ret
          exact ⟨rfl, below_nx c10 b11⟩
end Go.Proofs.Ytibkhjbcagihbaa
