/-
  The walks of the statements on makers and on the two sizes.
-/
import Derived.Test.YtmemnkmmjejlgaaDoorEvBal
import Derived.Test.YtmemnkmmjejlgaaDoorEvEven
namespace Go.Proofs.YtmemnkmmjejlgaaDoor
open Go.RowKit Go.Shelf
attribute [local go_sem] Oper.semAt_some
set_option maxRecDepth 100000

theorem MakerIs.eq {n : Nat} {p : Nat → Bool} {e e' : Ending} (h : MakerIs n p e) (k : MakerIs n p e') : e = e' := by
  rcases h with ⟨g, a1, a2, a3, a4, rfl⟩ | ⟨a4, rfl⟩ <;> rcases k with ⟨g', b1, b2, b3, b4, rfl⟩ | ⟨b4, rfl⟩
  · obtain rfl : g = g' := by
      apply Nat.le_antisymm
      · apply Nat.le_of_not_lt
        intro hlt
        have := a4 g' b1 hlt
        rw [b3] at this; cases this
      · apply Nat.le_of_not_lt
        intro hlt
        have := b4 g a1 hlt
        rw [a3] at this; cases this
    rfl
  · have := b4 g a1 a2
    rw [a3] at this; cases this
  · have := a4 g' b1 b2
    rw [b3] at this; cases this
  · rfl

set_option maxHeartbeats 4000000 in
theorem EvenMakers_walk (n s : Int) (_w0 : (Lit.int .i64 n).wf = true) (_w1 : (Lit.int .i64 s).wf = true) (w : World) (hT : Tab w) :
    Calls Tryd.prog 4 #[.int .i64 n, .int .i64 s] w fun e w' => e = .returned (.bool true) ∧ Below w.heap.size w w' := by
  have HV := Lib.hid (Scale_any n s)
  by_cases hv : vldB n s = true
  · rw [hv] at HV
    obtain ⟨n, s, rfl, rfl, h1, h2, h3, h4⟩ := vldB_nat hv
    have HM := Lib.hid (Maker_ok n s h1 h2 h3 h4 w hT)
    have HTw := Lib.hid (fun W hW => Two_ok n s h1 h2 h3 h4 W hW)
    have HRM := Lib.hid (fun W => refMaker_any n s h1 h2 h3 h4 W)
    have HRT := Lib.hid (fun W => refTwo_any n s h1 h2 h3 h4 W)
    generalize twoB n s = bv at HTw HRT
    generalize (fun g => makesB n g s) = p at HM HRM
    clear hv h3 h4
    go_enter Tryd.func4, Tryd.ntmps4
    go_wp2_with fail
    refine HM.out.mono ?_
    rintro e1 w1 ⟨hm, b1⟩
    have t1 := hT.same b1
    have HE := Lib.hid (fun e' (h : MakerIs n p e') => MakerIs.eq hm h)
    rcases hm with ⟨g, hg1, hg2, _, _, rfl⟩ | ⟨_, rfl⟩
    all_goals
      go_wp2_with fail
      refine (HTw.out _ t1).mono ?_
      rintro e w2 ⟨rfl, b2⟩
      have c2 := below_next b1 b2
      clear b1 b2 t1
      go_wp2_with fail
      refine (HV.out _).mono ?_
      rintro e w4 ⟨rfl, rfl⟩
      go_wp2_with fail
      refine (HRM.out _).mono ?_
      rintro e' w4 ⟨hm', b4⟩
      obtain rfl := HE.out e' hm'
      have c4 := below_next c2 b4
      clear c2 b4 hm'
      go_wp2_with fail
      refine (HRT.out _).mono ?_
      rintro e w5 ⟨rfl, b5⟩
      have c5 := below_next c4 b5
      clear c4 b5
      go_wp2_with fail
      refine (awake_any _).mono ?_
      rintro e w6 ⟨rfl, b6⟩
      have c6 := below_next c5 b6
      clear c5 b6
      go_wp2
      go_ret
      exact ⟨rfl, c6⟩
  · have hv' : vldB n s = false := by simpa using hv
    rw [hv'] at HV
    have HM := Lib.hid (Maker_bad n s hv')
    have HTw := Lib.hid (Two_bad n s hv')
    clear hv hv' hT
    go_enter Tryd.func4, Tryd.ntmps4
    go_wp2_with fail
    refine (HM.out _).mono ?_
    rintro e w1 ⟨rfl, b1⟩
    go_wp2_with fail
    refine (HTw.out _).mono ?_
    rintro e w2 ⟨rfl, b2⟩
    have c2 := below_next b1 b2
    clear b1 b2
    go_wp2_with fail
    refine (HV.out _).mono ?_
    rintro e w4 ⟨rfl, rfl⟩
    go_wp2_with fail
    refine (awake_any _).mono ?_
    rintro e w5 ⟨rfl, b5⟩
    have c5 := below_next c2 b5
    clear c2 b5
    go_wp2
    go_ret
    exact ⟨rfl, c5⟩

/-- What the step is where there are two sizes. -/
def TwoAns (n : Nat) (tw : Bool) (e : Ending) : Prop := tw = false ∨ ∃ g : Nat, 1 ≤ g ∧ g < n ∧ e = .returned (.tuple #[.int .i64 g, .int .i64 0])
theorem TwoAns.none {n : Nat} (h : TwoAns n true (.returned (.tuple #[.int .i64 0, .int .i64 4]))) : False := by
  rcases h with h | ⟨g, _, _, h⟩
  · cases h
  · simp at h

set_option maxHeartbeats 8000000 in
theorem EvenTwo_walk (n s : Int) (_w0 : (Lit.int .i64 n).wf = true) (_w1 : (Lit.int .i64 s).wf = true) (w : World) (hT : Tab w) :
    Calls Tryd.prog 10 #[.int .i64 n, .int .i64 s] w fun e w' => e = .returned (.bool true) ∧ Below w.heap.size w w' := by
  have HV := Lib.hid (Scale_any n s)
  by_cases hv : vldB n s = true
  · rw [hv] at HV
    obtain ⟨n, s, rfl, rfl, h1, h2, h3, h4⟩ := vldB_nat hv
    have HTw := Lib.hid (Two_ok n s h1 h2 h3 h4 w hT)
    have HE := Lib.hid (fun W hW => Even_ok n s h1 h2 h3 h4 W hW)
    have HM := Lib.hid (fun W hW => Maker_ok n s h1 h2 h3 h4 W hW)
    have HRT := Lib.hid (fun W => refTones_any n s h2 h3 h4 W)
    have hle := tonesB_le n s
    have HG := Lib.hid (gcd_any n (tonesB n s).length (by omega) (by omega))
    have HMade := Lib.hid (fun h => two_makes h1 h2 h4 h)
    have HEv := Lib.hid (fun a b c => even_two (n := n) (s := s) h1 a b c)
    have hgl : Nat.gcd n (tonesB n s).length ≤ n := Nat.gcd_le_left _ (by omega)
    unfold ListAt at HRT
    generalize tonesB n s = ts at *
    generalize ts.length = K at *
    generalize evenB n s = ev at *
    generalize twoB n s = tw at *
    generalize hp : (fun g => makesB n g s) = p at *
    have HP : Hid (∀ g, makesB n g s = p g) := Lib.hid (fun g => by rw [← hp])
    clear hp hv h3 h4
    -- what is asked of the answers
    have hA : ∀ e, MakerIs n p e → TwoAns n tw e := fun e hm => by
      cases ht : tw
      · exact Or.inl rfl
      refine Or.inr ?_
      obtain ⟨g, a1, a2, a3⟩ := HMade.out ht
      rw [HP.out] at a3
      rcases hm with ⟨g', b1, b2, _, _, b5⟩ | ⟨b4, _⟩
      · exact ⟨g', b1, b2, b5⟩
      · have := b4 g a1 a2
        rw [a3] at this; cases this
    have HA := Lib.hid hA
    obtain ⟨gc, hgc⟩ : ∃ gc, Nat.gcd n K = gc := ⟨_, rfl⟩
    rw [hgc] at HG hgl HEv
    have hcase : ev = false ∨ (ev = true ∧ 2 ≤ K ∧ K < n ∧ ((gc : Int) == 1) = true ∧ tw = true) ∨ (ev = true ∧ 2 ≤ K ∧ K < n ∧ ((gc : Int) == 1) = false) ∨ (ev = true ∧ 2 ≤ K ∧ n ≤ K) ∨ (ev = true ∧ K < 2) := by
      cases he : ev
      · exact Or.inl rfl
      · by_cases hk2 : 2 ≤ K
        · by_cases hkn : K < n
          · by_cases hg : gc = 1
            · exact Or.inr (Or.inl ⟨rfl, hk2, hkn, by rw [beq_iff_eq, hg]; rfl, HEv.out hk2 hg he⟩)
            · exact Or.inr (Or.inr (Or.inl ⟨rfl, hk2, hkn, by rw [beq_eq_false_iff_ne]; omega⟩))
          · exact Or.inr (Or.inr (Or.inr (Or.inl ⟨rfl, hk2, by omega⟩)))
        · exact Or.inr (Or.inr (Or.inr (Or.inr ⟨rfl, by omega⟩)))
    clear hA hgc
    have fin : ∀ (tw : Bool) (g : Int) (x : Int), True := fun _ _ _ => trivial
    clear fin
    rcases hcase with rfl | ⟨rfl, hk2, hkn, hg, rfl⟩ | ⟨rfl, hk2, hkn, hg⟩ | ⟨rfl, hk2, hkn⟩ | ⟨rfl, hk2⟩
    all_goals
      try cases tw
    all_goals
      go_enter Tryd.func10, Tryd.ntmps10
      go_wp2_with fail
      refine HTw.out.mono ?_
      rintro e w1 ⟨rfl, b1⟩
      have t1 := hT.same b1
      go_wp2_with fail
      refine (HV.out _).mono ?_
      rintro e w4 ⟨rfl, rfl⟩
      go_wp2_with fail
      refine (HE.out _ t1).mono ?_
      rintro e w2 ⟨rfl, b2⟩
      have t2 := t1.same b2
      have c2 := below_next b1 b2
      clear b1 b2 t1
      go_wp2_with fail
      refine (HM.out _ t2).mono ?_
      rintro e1 w3 ⟨hm, b3⟩
      have c3 := below_next c2 b3
      clear b3 t2 c2
      have HA1 := HA.out e1 hm
      rcases hm with ⟨g, hg1, hg2, _, _, rfl⟩ | ⟨_, rfl⟩
      all_goals
        try exact (TwoAns.none HA1).elim
      all_goals
        clear HA1
        go_wp2_with fail
        refine (HRT.out _).mono ?_
        rintro e w5 ⟨_, rfl, ⟨g8, cap8, rfl, _, _, _⟩, b5⟩
        have c5 := below_next c3 b5
        clear c3 b5
        go_wp2_with fail
        first
        | (refine (HG.out _).mono ?_
           rintro e w6 ⟨rfl, q6, rfl⟩
           have c6 := below_drewN c5 q6
           clear c5
           go_wp2_with fail
           refine (awake_any _).mono ?_
           rintro e w7 ⟨rfl, b7⟩
           have c7 := below_next c6 b7
           clear c6 b7
           go_wp2
           go_ret
           exact ⟨rfl, c7⟩)
        | (refine (awake_any _).mono ?_
           rintro e w7 ⟨rfl, b7⟩
           have c7 := below_next c5 b7
           clear c5 b7
           go_wp2
           go_ret
           exact ⟨rfl, c7⟩)
  · have hv' : vldB n s = false := by simpa using hv
    rw [hv'] at HV
    have HTw := Lib.hid (Two_bad n s hv')
    clear hv hv' hT
    go_enter Tryd.func10, Tryd.ntmps10
    go_wp2_with fail
    refine (HTw.out _).mono ?_
    rintro e w1 ⟨rfl, b1⟩
    go_wp2_with fail
    refine (awake_any _).mono ?_
    rintro e w5 ⟨rfl, b5⟩
    have c5 := below_next b1 b5
    clear b1 b5
    go_wp2
    go_ret
    exact ⟨rfl, c5⟩

end Go.Proofs.YtmemnkmmjejlgaaDoor
