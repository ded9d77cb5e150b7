/-
  The walk of the statement on plain rhythms.
-/
import Derived.Test.YtehjdhegnpmfaabDoorCaPlain
namespace Go.Proofs.YtehjdhegnpmfaabDoor
open Go.RowKit Go.Shelf
attribute [local go_sem] Oper.semAt_some
set_option maxRecDepth 100000

/-- What Plain hands back on any circle. -/
theorem Plain_both (n : Nat) (hn : 2 ≤ n) : ∃ err : Nat, ((err = 0) ∨ (err = 2 ∧ 16 < n)) ∧ ∀ w : World, Tab w → Calls Tryd.prog 39 #[.int .i64 n] w fun e w' => e = .returned (.tuple #[.slice none 0 0, .int .i64 err]) ∧ Below w.heap.size w w' := by
  by_cases h : n ≤ 16
  · exact ⟨0, Or.inl rfl, fun w hT => Plain_ok n hn h w hT⟩
  · exact ⟨2, Or.inr ⟨rfl, by omega⟩, fun w _ => Plain_bad n (Or.inr (by omega)) w⟩

set_option maxHeartbeats 2000000 in
theorem CanonHajos_walk (n a : Int) (_w0 : (Lit.int .i64 n).wf = true) (_w1 : (Lit.int .i64 a).wf = true) (w : World) (hT : Tab w) :
    Calls Tryd.prog 10 #[.int .i64 n, .int .i64 a] w fun e w' => e = .returned (.bool true) ∧ Below w.heap.size w w' := by
  cases hv : vldB n a
  · have H1 := Lib.hid (Partner_bad n a hv)
    clear hv
    go_enter Tryd.func10, Tryd.ntmps10
    go_wp2_with fail
    refine (H1.out _).mono ?_
    rintro e w1 ⟨rfl, b1⟩
    have t1 := hT.same b1
    go_wp2_with fail
    refine (awake2_any _ t1).mono ?_
    rintro e w4 ⟨rfl, b4⟩
    go_wp2
    go_ret
    exact ⟨rfl, below_next b1 b4⟩
  · have HVa := Lib.hid (Rhythm_any n a)
    rw [hv] at HVa
    obtain ⟨n, a, rfl, rfl, hn, hn2, ha, ha1⟩ := vldB_nat hv
    have H1 := Lib.hid (Partner_ok n a hn hn2 ha ha1)
    have HX := Lib.hid (fun b => (mem_partners (c := b) (by omega) (by omega) ha ha1).1)
    have HP := Lib.hid (Period_ok n a hn hn2 ha ha1)
    have HQ := Lib.hid (fun (b : Nat) hb hb1 => Period_ok n b hn hn2 hb hb1)
    have HJ := Lib.hid (fun (b : Nat) hb h => hajos (b := b) hn hn2 ha hb h)
    obtain ⟨err, herr, hpl⟩ := Plain_both n hn
    have HPl := Lib.hid hpl
    clear hv ha ha1 hpl
    generalize partners n a = xs at H1 HX
    go_enter Tryd.func10, Tryd.ntmps10
    go_wp2_with fail
    refine (H1.out _ hT).mono ?_
    rintro e w1 ⟨hr1, b1⟩
    have t1 := hT.same b1
    rcases hr1 with ⟨_, rfl⟩ | ⟨b, hb, _, rfl⟩
    · go_wp2_with fail
      refine (awake2_any _ t1).mono ?_
      rintro e w4 ⟨rfl, b4⟩
      go_wp2
      go_ret
      exact ⟨rfl, below_next b1 b4⟩
    · obtain ⟨hb1, hb2, hb3⟩ := HX.out b hb
      have HQb := Lib.hid (HQ.out b hb1 hb2)
      have hor := HJ.out b hb1 hb3
      generalize perN n a = p at HP hor
      generalize perN n b = q at HQb hor
      clear hb hb1 hb2 hb3 HX HQ HJ
      go_wp2_with fail
      refine (HVa.out _).mono ?_
      rintro e w3 ⟨rfl, rfl⟩
      go_wp2_with fail
      refine (HP.out _).mono ?_
      rintro e w2 ⟨rfl, b2⟩
      have t2 := t1.same b2
      have c2 := below_next b1 b2
      go_wp2_with fail
      refine (HQb.out _).mono ?_
      rintro e w3 ⟨rfl, b3⟩
      have t3 := t2.same b3
      have c3 := below_next c2 b3
      go_wp2_with fail
      refine (HPl.out _ t3).mono ?_
      rintro e w4 ⟨rfl, b4⟩
      have t4 := t3.same b4
      have c4 := below_next c3 b4
      clear b1 b2 b3 b4 c2 c3 t1 t2 t3
      by_cases hp : p < n
      · rcases herr with rfl | ⟨rfl, h16⟩
        · go_wp2_with fail
          refine (awake2_any _ t4).mono ?_
          rintro e w5 ⟨rfl, b5⟩
          go_wp2
          go_ret
          exact ⟨rfl, below_next c4 b5⟩
        · go_wp2_with fail
          refine (awake2_any _ t4).mono ?_
          rintro e w5 ⟨rfl, b5⟩
          go_wp2
          go_ret
          exact ⟨rfl, below_next c4 b5⟩
      · have hq : q < n := hor.resolve_left hp
        rcases herr with rfl | ⟨rfl, h16⟩
        · go_wp2_with fail
          refine (awake2_any _ t4).mono ?_
          rintro e w5 ⟨rfl, b5⟩
          go_wp2
          go_ret
          exact ⟨rfl, below_next c4 b5⟩
        · go_wp2_with fail
          refine (awake2_any _ t4).mono ?_
          rintro e w5 ⟨rfl, b5⟩
          go_wp2
          go_ret
          exact ⟨rfl, below_next c4 b5⟩

end Go.Proofs.YtehjdhegnpmfaabDoor
