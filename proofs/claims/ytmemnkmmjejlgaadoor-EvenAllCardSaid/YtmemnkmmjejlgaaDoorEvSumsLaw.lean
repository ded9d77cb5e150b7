/-
  Sum of package even, and the reference's; the statement on it.
-/
import Derived.Test.YtmemnkmmjejlgaaDoorEvSum
namespace Go.Proofs.YtmemnkmmjejlgaaDoor
open Go.RowKit Go.Shelf
attribute [local go_sem] Oper.semAt_some
set_option maxRecDepth 100000

theorem cell_at {w : World} {k : Nat} {v : Value} {t : TypeId} (h : k = w.heap.size) : (w.alloc (.cells #[v] t)).cell? ⟨k, 0, none⟩ = some v := by
  subst h; simp

theorem below_two (w : World) (o : Obj) : Below w.heap.size w (w.alloc o) := (Below.refl _ w).alloc (Nat.le_refl _) _

/-- d (n - d) as the reference reckons it. -/
theorem pr_int2 {n l h : Nat} (hl : l < h) (hh : h < n) : ((h : Int) - l) * ((n : Int) - h + l) = (((h - l) * (n - (h - l)) : Nat) : Int) := by
  rw [← pr_int hl hh]
  congr 1
  omega

theorem refSum_any (n s : Nat) (h2 : n ≤ 16) (h3 : 1 ≤ s) (h4 : s < 2 ^ n) (w : World) :
    Calls Tryd.prog 30 #[.int .i64 n, .int .i64 s] w fun e w' => e = .returned (.int .i64 (sumS n s : Nat)) ∧ Below w.heap.size w w' := by
  have H := Lib.hid (refTones_any n s h2 h3 h4 w)
  have hL := tonesB_le n s
  have HP := Lib.hid (prN_le (ts := tonesB n s) h2 (tones_small h2))
  have HE := Lib.hid (show accR n (tonesB n s) (tonesB n s).length = sumS n s from rfl)
  have HR : Hid (∀ i j, i < j → j < (tonesB n s).length → (tonesB n s)[i]?.getD 0 < (tonesB n s)[j]?.getD 0 ∧ (tonesB n s)[j]?.getD 0 < n) := Lib.hid (fun i j hij hj => ⟨tonesB_rise hj hij, (tonesB_at hj).1⟩)
  generalize sumS n s = S at HE
  generalize tonesB n s = ts at *
  obtain ⟨K, hK⟩ : ∃ K, ts.length = K := ⟨_, rfl⟩
  have HK := Lib.hid hK
  unfold accR at HE
  unfold ListAt at H
  rw [hK] at H HE HR hL
  clear h4 h3 hK
  go_enter Tryd.func30, Tryd.ntmps30
  go_wp2_with fail
  refine H.out.mono ?_
  rintro e w1 ⟨_, rfl, ⟨g, cap, rfl, hg, hcap, hc⟩, hb⟩
  have HC := Lib.hid hc
  clear hc
  go_wp2
  go_loopw [5, 16] (fun t i wr => ∃ a m : Nat, a ≤ K ∧ i = .int .i64 a ∧ t = .int .i64 (sumN a (fun a => sumN a (fun b => prN n ts b a)) : Nat) ∧ wr = w1.drewN m) (fun _ i _ => K - (intOf i).toNat)
  case atStart => exact ⟨0, 0, Nat.zero_le _, rfl, rfl, rfl⟩
  case round =>
    obtain ⟨a, m, ha, rfl, rfl, rfl⟩ := hrel
    by_cases hlt : a < K
    · have ca := HC.out a hlt
      obtain ⟨hi, hhi⟩ : ∃ hi, ts[a]?.getD 0 = hi := ⟨_, rfl⟩
      rw [hhi] at ca
      have HHi := Lib.hid hhi
      clear hhi
      have HAcc := Lib.hid (show sumN a (fun a => sumN a (fun b => prN n ts b a)) ≤ 65536 from accs_le (fun i _ => rows_le (fun b => HP.out b i) (by omega)) (by omega))
      have HSt := Lib.hid (show sumN (a + 1) (fun a => sumN a (fun b => prN n ts b a)) = sumN a (fun a => sumN a (fun b => prN n ts b a)) + sumN a (fun b => prN n ts b a) from rfl)
      obtain ⟨A, hA⟩ : ∃ A, sumN a (fun a => sumN a (fun b => prN n ts b a)) = A := ⟨_, rfl⟩
      rw [hA] at HAcc HSt
      rw [hA]
      clear hA
      go_wp2
      go_loopw [5, 25] (fun t i wr => ∃ b m' : Nat, b ≤ a ∧ i = .int .i64 b ∧ t = .int .i64 ((A + sumN b (fun b => prN n ts b a) : Nat) : Int) ∧ wr = w1.drewN m') (fun _ i _ => K - (intOf i).toNat)
      case atStart => exact ⟨0, m, Nat.zero_le _, rfl, rfl, rfl⟩
      case round =>
        obtain ⟨b, m', hb', rfl, rfl, rfl⟩ := hrel
        by_cases hlt2 : b < a
        · have cb := HC.out b (by omega)
          have hr := HR.out b a (by omega) (by omega)
          have hpr := HP.out b a
          have hacc := HAcc.out
          have hrow := rows_le (fun b => HP.out b a) (j := b) (by omega)
          have HSn := Lib.hid (show sumN (b + 1) (fun b => prN n ts b a) = sumN b (fun b => prN n ts b a) + prN n ts b a from rfl)
          have HPr : Hid (prN n ts b a = (ts[a]?.getD 0 - ts[b]?.getD 0) * (n - (ts[a]?.getD 0 - ts[b]?.getD 0))) := Lib.hid rfl
          have hll := HHi.out
          rw [hll] at hr HPr
          generalize prN n ts b a = p at hpr HSn HPr
          generalize sumN b (fun b => prN n ts b a) = R at hrow HSn
          obtain ⟨low, hlow⟩ : ∃ low, ts[b]?.getD 0 = low := ⟨_, rfl⟩
          rw [hlow] at cb hr HPr
          have hpi := pr_int2 hr.1 hr.2
          rw [← HPr.out] at hpi
          clear hlow hll
          go_wp2
          go_roundw
          case rel => exact ⟨b + 1, m', by omega, by go_num, by rw [HSn.out]; go_num, rfl⟩
          case measure => simp only [intOf]; omega
        · go_wp2
          go_roundw
          case rel => exact ⟨a + 1, m', by omega, by go_num, by rw [HSt.out, show b = a by omega], rfl⟩
          case measure => simp only [intOf]; omega
    · have hfin := Lib.hid (show sumN a (fun a => sumN a (fun b => prN n ts b a)) = S by rw [← HE.out, show a = K by omega])
      go_wp2
      go_ret
      exact ⟨ret_int (by rw [hfin.out]), below_drewN hb m⟩

theorem Sum_bad (n s : Int) (h : vldB n s = false) (w : World) :
    Calls Tryd.prog 29 #[.int .i64 n, .int .i64 s] w fun e w' => e = .returned (.tuple #[.int .i64 0, .int .i64 2]) ∧ Below w.heap.size w w' := by
  have HV := Lib.hid (valid1 n s _ h)
  clear h
  go_enter Tryd.func29, Tryd.ntmps29
  go_wp2_with (go_at_call 48; refine (HV.out _ _ _ (cell_at rfl)).mono ?_; rintro e w' ⟨rfl, rfl⟩)
  go_ret2
  exact ⟨rfl, below_two _ _⟩

theorem Sum_ok (n s : Nat) (h1 : 2 ≤ n) (h2 : n ≤ 16) (h3 : 1 ≤ s) (h4 : s < 2 ^ n) (w : World) (hT : Tab w) :
    Calls Tryd.prog 29 #[.int .i64 n, .int .i64 s] w fun e w' => e = .returned (.tuple #[.int .i64 (sumS n s : Nat), .int .i64 0]) ∧ Below w.heap.size w w' := by
  have HV := Lib.hid (valid1 n s _ (vldB_of_nat h1 h2 h3 h4))
  have hB := below_two w (.cells #[.int .i64 s] 3)
  have HS := Lib.hid (sum_slice n s h1 h2 h3 h4 _ (hT.same hB))
  generalize sumS n s = S at HS
  clear hT h4
  go_enter Tryd.func29, Tryd.ntmps29
  go_wp2_with (go_at_call 48; refine (HV.out _ _ _ (cell_at rfl)).mono ?_; rintro e w' ⟨rfl, rfl⟩)
  refine HS.out.mono ?_
  rintro e w2 ⟨rfl, hb⟩
  have hbb := hB.trans (hb.mono hB.size)
  go_wp2
  go_ret2
  exact ⟨rfl, hbb⟩

theorem EvenSums_walk (n s : Int) (_w0 : (Lit.int .i64 n).wf = true) (_w1 : (Lit.int .i64 s).wf = true) (w : World) (hT : Tab w) :
    Calls Tryd.prog 5 #[.int .i64 n, .int .i64 s] w fun e w' => e = .returned (.bool true) ∧ Below w.heap.size w w' := by
  have HV := Lib.hid (Scale_any n s)
  by_cases hv : vldB n s = true
  · rw [hv] at HV
    obtain ⟨n, s, rfl, rfl, h1, h2, h3, h4⟩ := vldB_nat hv
    have H1 := Lib.hid (Sum_ok n s h1 h2 h3 h4 w hT)
    have R1 := Lib.hid (refSum_any n s h2 h3 h4)
    generalize sumS n s = x at H1 R1
    clear hv h3 h4 hT
    go_enter Tryd.func5, Tryd.ntmps5
    go_wp2_with fail
    refine H1.out.mono ?_
    rintro e w1 ⟨rfl, b1⟩
    go_wp2_with fail
    refine (HV.out _).mono ?_
    rintro e w4 ⟨rfl, rfl⟩
    go_wp2_with fail
    refine (R1.out _).mono ?_
    rintro e w4 ⟨rfl, b4⟩
    have c4 := below_next b1 b4
    clear b1 b4
    go_wp2_with fail
    refine (awake_any _).mono ?_
    rintro e w5 ⟨rfl, b5⟩
    have c5 := below_next c4 b5
    clear c4 b5
    go_wp2
    go_ret
    exact ⟨rfl, c5⟩
  · have hv' : vldB n s = false := by simpa using hv
    rw [hv'] at HV
    have H1 := Lib.hid (Sum_bad n s hv')
    clear hv hv' hT
    go_enter Tryd.func5, Tryd.ntmps5
    go_wp2_with fail
    refine (H1.out _).mono ?_
    rintro e w1 ⟨rfl, b1⟩
    go_wp2_with fail
    refine (HV.out _).mono ?_
    rintro e w4 ⟨rfl, rfl⟩
    go_wp2_with fail
    refine (awake_any _).mono ?_
    rintro e w5 ⟨rfl, b5⟩
    have c5 := below_next b1 b5
    clear b1 b5
    go_wp2
    go_ret
    exact ⟨rfl, c5⟩

end Go.Proofs.YtmemnkmmjejlgaaDoor
