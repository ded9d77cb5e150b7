/-
  The statement on triads as chords: the triads of a Kind are the images of one of them; a shift is what becomes of the chord.
-/
import Derived.Test.YtibkhjbcagihbaaDoorTrTopMath
import Derived.Test.YtibkhjbcagihbaaDoorTrShiftsLaw
import Derived.Test.YtibkhjbcagihbaaDoorTrFindFns
namespace Go.Proofs.YtibkhjbcagihbaaDoor
open Go.ChangeShapes Go.WideShapes Go.ChangeAt Go.RowKit Go.Shelf
open Ch
set_option maxRecDepth 100000

theorem kind_any (n a b : Int) (w : World) :
    Calls Tryd.prog 14 #[kv n a b] w fun e w' => e = .returned (kv n a b) ∧ Below w.heap.size w w' := by
  go_enter Tryd.func14, Tryd.ntmps14
  go_wp2
  refine bodyPost_ret (results_cell_row rfl _ _ (w.heap.size + 1) 27 #[.int .i64 n, .int .i64 a, .int .i64 b] (0, 0) _ rfl (heap_alloc2_new w _ _) Tryd.underlying27 rfl (by kernel_rfl)) rfl ?_
  exact ⟨rfl, ((Below.refl _ _).alloc (Nat.le_refl _) _).alloc (by simp) _⟩

theorem steps_any (w : World) : Calls Tryd.prog 15 #[] w fun e w' => e = .returned (.bool true) ∧ Below w.heap.size w w' := by
  have HW := Lib.hid (Walk_ok 12 4 7 0 ⟨by omega, by omega, by omega, by omega, by omega, by omega, by omega, by omega⟩ (by omega) ⟨#[80]⟩ (by unfold maxLen; decide) (by decide +kernel))
  have e : ((walkN 12 4 7 0 (bsN ⟨#[80]⟩) : Nat) : Int) = 19 := by decide +kernel
  rw [e] at HW
  clear e
  go_enter Tryd.func15, Tryd.ntmps15
  go_wp2_with fail
  refine (HW.out _).mono ?_
  rintro e w1 ⟨rfl, b1⟩
  go_wp2
  go_ret
  exact ⟨rfl, b1⟩

theorem has_any (g cap t K : Nat) (xs : List Nat) (hK : xs.length = K) (hl : K ≤ 4096) (ht : t ∈ xs) (w : World) (hc : ∀ i, i < K → w.cell? ⟨g, i, none⟩ = some (.int .i64 ((xs[i]?.getD 0 : Nat) : Int))) :
    Calls Tryd.prog 17 #[.slice (some ⟨g, 0, none⟩) K cap, .int .i64 t] w fun e w' => e = .returned (.bool true) ∧ w = w' := by
  subst hK
  have e1 : (xs.map (fun (x : Nat) => (x : Int))).length = xs.length := by simp
  have := Tryd.slices_Contains_int g 0 xs.length cap (xs.map (fun (x : Nat) => (x : Int))) (t : Int) w (by rw [e1]; exact Nat.le_refl _) (by omega) (fun j hj => by
    rw [e1] at hj
    rw [Nat.zero_add, hc j hj, List.getD_eq_getElem?_getD, List.getElem?_map]
    rw [List.getElem?_eq_getElem hj]; rfl)
  refine this.mono ?_
  rintro e w' ⟨rfl, rfl⟩
  refine ⟨ret_bool ?_, rfl⟩
  rw [List.take_of_length_le (by rw [e1]; exact Nat.le_refl _), List.contains_eq_mem, decide_eq_true_eq]
  exact List.mem_map.2 ⟨t, ht, rfl⟩

set_option maxHeartbeats 2000000 in
theorem TopTriads_walk (n a b t k : Int) (tu : Bool) (_ : (Lit.int .i64 n).wf = true) (_ : (Lit.int .i64 a).wf = true) (_ : (Lit.int .i64 b).wf = true) (_ : (Lit.int .i64 t).wf = true) (wk : (Lit.int .i64 k).wf = true) (w : World) (hT : Tab w) :
    Calls Tryd.prog 4 #[kv n a b, .int .i64 t, .int .i64 k, .bool tu] w fun e w' => e = .returned (.bool true) ∧ Below w.heap.size w w' := by
  have HO := Lib.hid (kind_any n a b)
  have HAw := Lib.hid steps_any
  have HV := Lib.hid (RValid_any n a b)
  obtain ⟨W0, hW0⟩ : ∃ W0, w.alloc (rcells n a b) = W0 := ⟨_, rfl⟩
  have c0 : Below w.heap.size w W0 := by rw [← hW0]; exact (Below.refl _ w).alloc (Nat.le_refl _) _
  have k0 : W0.cell? ⟨w.heap.size, 0, none⟩ = some (.int .i64 n) := by rw [← hW0]; simp
  have k1 : W0.cell? ⟨w.heap.size, 1, none⟩ = some (.int .i64 a) := by rw [← hW0]; simp
  have k2 : W0.cell? ⟨w.heap.size, 2, none⟩ = some (.int .i64 b) := by rw [← hW0]; simp
  have HT0 := Lib.hid hT
  have hW := Lib.hid hW0
  clear hW0 hT
  cases hK : kindB n a b
  · rw [hK] at HV
    have HTo := Lib.hid (Tones_bad n a b t (by rw [hK]; rfl))
    clear hK
    go_enter Tryd.func4, Tryd.ntmps4
    go_wp2_with fail
    rw [hW.out]
    refine (HV.out _).mono ?_
    rintro e w1 ⟨rfl, b1⟩
    have c1 := below_nx c0 b1
    have k0 := cell_later b1 k0
    have k1 := cell_later b1 k1
    have k2 := cell_later b1 k2
    go_wp2_with fail
    refine (HO.out _).mono ?_
    rintro e w2 ⟨rfl, b2⟩
    have c2 := below_nx c1 b2
    go_wp2_with fail
    refine (HTo.out _).mono ?_
    rintro e w3 ⟨rfl, b3⟩
    have c3 := below_nx c2 b3
    go_wp2_with fail
    refine (HAw.out _).mono ?_
    rintro e w4 ⟨rfl, b4⟩
    have c4 := below_nx c3 b4
    go_wp2
    go_ret
    exact ⟨rfl, c4⟩
  · rw [hK] at HV
    have HTr := Lib.hid (RTriad_any n a b t)
    rw [triad_test hK] at HTr
    have HVc := Lib.hid (fun (s : Int) v (h : vldB n s = v) => h)
    cases hb : triB n t
    · rw [hb] at HTr
      have HTo := Lib.hid (Tones_bad n a b t (by rw [hK, hb]; rfl))
      clear hK hb
      go_enter Tryd.func4, Tryd.ntmps4
      go_wp2_with fail
      rw [hW.out]
      refine (HV.out _).mono ?_
      rintro e w1 ⟨rfl, b1⟩
      have c1 := below_nx c0 b1
      have k0 := cell_later b1 k0
      have k1 := cell_later b1 k1
      have k2 := cell_later b1 k2
      go_wp2_with fail
      refine (HTr.out _).mono ?_
      rintro e w2 ⟨rfl, b2⟩
      have c2 := below_nx c1 b2
      have k0 := cell_later b2 k0
      have k1 := cell_later b2 k1
      have k2 := cell_later b2 k2
      go_wp2_with fail
      refine (HO.out _).mono ?_
      rintro e w3 ⟨rfl, b3⟩
      have c3 := below_nx c2 b3
      go_wp2_with fail
      refine (HTo.out _).mono ?_
      rintro e w4 ⟨rfl, b4⟩
      have c4 := below_nx c3 b4
      go_wp2_with fail
      refine (HAw.out _).mono ?_
      rintro e w5 ⟨rfl, b5⟩
      have c5 := below_nx c4 b5
      go_wp2
      go_ret
      exact ⟨rfl, c5⟩
    · rw [hb] at HTr
      obtain ⟨n, a, b, rfl, rfl, rfl, hk⟩ := kindB_nat hK
      have hk := Lib.hid hk
      have h16 := hk.out.h16
      have h6 := hk.out.h6
      obtain ⟨t, rfl, ht⟩ : ∃ t' : Nat, t = t' ∧ t' < 2 * n := by
        unfold triB at hb
        have := of_decide_eq_true hb
        obtain ⟨t', rfl⟩ := Int.eq_ofNat_of_zero_le this.1
        exact ⟨t', rfl, by omega⟩
      have HTo := Lib.hid (fun t h => Tones_ok n a b t hk.out h)
      have HTt := Lib.hid (Tones_ok n a b t hk.out ht)
      have HSl := Lib.hid (fun t => setT_lt hk.out t 3)
      have HFi := Lib.hid (fun t W h => Find_ok n a b (setT n a b t 3) hk.out (HSl.out t) W h)
      have HCn := Lib.hid (cls_length hk.out ht)
      have HCm := Lib.hid (fun u (hu : u < 2 * n) => (mem_cls (x := setT n a b u 3) hk.out ht).2 ⟨u, hu, rfl⟩)
      obtain ⟨κ, hκ, hκn⟩ : ∃ κ : Nat, (IntKind.u64.wrap k).tmod n = κ ∧ κ < n := by
        have h1 : 0 ≤ IntKind.u64.wrap k := by rw [IntKind.wrap_u64]; exact Int.emod_nonneg _ (by omega)
        refine ⟨((IntKind.u64.wrap k).tmod n).toNat, ?_, ?_⟩
        · rw [Int.toNat_of_nonneg (Int.tmod_nonneg _ h1)]
        · have := Int.tmod_lt_of_pos (IntKind.u64.wrap k) (show (0 : Int) < n by omega)
          omega
      have hwn : IntKind.u64.wrap (n : Int) = n := wrap_natu n (by omega)
      have HSh := Lib.hid (Shift_ok n a b t (κ : Int) tu hk.out ht)
      have HShl := Lib.hid (show shiftN n t (κ : Int) tu < 2 * n from tri_lt hk.out.pos _ _)
      have HSet := Lib.hid (shift_set (u := κ) hk.out ht hκn tu)
      have hkap : ((κ : Int) % n).toNat = κ := by rw [Int.emod_eq_of_lt (by omega) (by omega), Int.toNat_natCast]
      obtain ⟨S0, hS0⟩ : ∃ S0, setT n a b t 3 = S0 := ⟨_, rfl⟩
      have hS0l : S0 < 2 ^ n := by rw [← hS0]; exact HSl.out t
      rw [hS0] at HTt HCn HCm HSet
      have HCl := Lib.hid (fun W h => Class_ok n S0 (by omega) h16 hS0l W h)
      have HTu := Lib.hid (fun W h => Turn_ok n S0 (by omega) h16 hS0l W h)
      have HMo : Hid (∀ c : Nat, c < 2 ^ n → ∀ W, Calls Tryd.prog 20 #[.int .i64 n, .int .i64 c, .int .i64 κ] W fun e w' => e = .returned (.tuple #[.int .i64 (mvN n c κ : Nat), .int .i64 0]) ∧ Below W.heap.size W w') := Lib.hid (fun c hc W => by
        have := Move_ok n c (κ : Int) (by omega) h16 hc W
        rwa [hkap] at this)
      have HMul : Hid (mulN n S0 (-1) < 2 ^ n) := Lib.hid (by
        unfold mulN
        refine orL_lt _ _ _ (fun x _ => ?_)
        have h1 := Int.emod_nonneg ((x : Int) * -1) (show (n : Int) ≠ 0 by omega)
        have h2 := Int.emod_lt_of_pos ((x : Int) * -1) (show (0 : Int) < n by omega)
        omega)
      have HS0l := Lib.hid hS0l
      clear hK hb hkap hS0 hS0l
      go_enter Tryd.func4, Tryd.ntmps4
      go_wp2_with fail
      rw [hW.out]
      refine (HV.out _).mono ?_
      rintro e w1 ⟨rfl, b1⟩
      have c1 := below_nx c0 b1
      have k0 := cell_later b1 k0
      have k1 := cell_later b1 k1
      have k2 := cell_later b1 k2
      go_wp2_with fail
      refine (HTr.out _).mono ?_
      rintro e w2 ⟨rfl, b2⟩
      have c2 := below_nx c1 b2
      have k0 := cell_later b2 k0
      have k1 := cell_later b2 k1
      have k2 := cell_later b2 k2
      go_wp2_with fail
      refine (HO.out _).mono ?_
      rintro e w3 ⟨rfl, b3⟩
      have c3 := below_nx c2 b3
      have k0 := cell_later b3 k0
      have k1 := cell_later b3 k1
      have k2 := cell_later b3 k2
      go_wp2_with fail
      refine (HTt.out _).mono ?_
      rintro e w4 ⟨rfl, b4⟩
      have c4 := below_nx c3 b4
      have k0 := cell_later b4 k0
      have k1 := cell_later b4 k1
      have k2 := cell_later b4 k2
      have HC4 := Lib.hid (HCl.out w4 (HT0.out.same c4))
      clear b1 b2 b3 b4 c1 c2 c3
      go_wp2_with fail
      refine HC4.out.mono ?_
      rintro e w5 ⟨g, cap, rfl, hg, hcl, b5⟩
      have c5 := below_nx c4 b5
      have k0 := cell_later b5 k0
      have k1 := cell_later b5 k1
      have k2 := cell_later b5 k2
      rw [HCn.out] at hcl ⊢
      have hgl : 0 < 2 * n → g < w5.heap.size := fun h => by
        have := hcl 0 h
        unfold World.cell? at this
        apply Nat.lt_of_not_le
        intro hle
        rw [Array.getElem?_eq_none (show w5.heap.size ≤ (⟨g, 0, none⟩ : Addr).block from hle)] at this
        cases this
      have HX := Lib.hid hcl
      clear hcl hgl hg b5 c4
      have h2n : IntKind.i64.wrap (2 * (n : Int)) = ((2 * n : Nat) : Int) := by rw [IntKind.wrap_i64]; omega
      have hq : (((2 * n : Nat) : Int) != ((2 * n : Nat) : Int)) = false := by rw [bne_eq_false_iff_eq]
      go_wp2_with fail
      go_loopw [76] (fun i wr => ∃ j : Nat, j ≤ 2 * n ∧ i = .int .i64 j ∧ Below w5.heap.size w5 wr) (fun i _ => 2 * n - (intOf i).toNat)
      case atStart => exact ⟨0, Nat.zero_le _, rfl, Below.refl _ _⟩
      case round =>
        obtain ⟨j, hj, rfl, hB⟩ := hrel
        have k0 := cell_later hB k0
        have k1 := cell_later hB k1
        have k2 := cell_later hB k2
        have cr := below_nx c5 hB
        by_cases hlt : j < 2 * n
        · have HToj := Lib.hid (HTo.out j hlt)
          have HFij := Lib.hid (HFi.out j)
          have HCmj := Lib.hid (HCm.out j hlt)
          have HSj : Hid (∀ r x, FindIs n a b (setT n a b j 3) r x → r = j ∧ x = 0) := Lib.hid (fun r x h => h.same hk.out (.inl ⟨hlt, rfl, rfl⟩))
          obtain ⟨y, hy⟩ : ∃ y, setT n a b j 3 = y := ⟨_, rfl⟩
          rw [hy] at HToj HFij HCmj HSj
          clear hy
          go_wp2_with fail
          refine (HO.out _).mono ?_
          rintro e w6 ⟨rfl, b6⟩
          have d6 := hB.trans (b6.mono hB.size)
          have k0 := cell_later b6 k0
          have k1 := cell_later b6 k1
          have k2 := cell_later b6 k2
          go_wp2_with fail
          refine (HToj.out _).mono ?_
          rintro e w7 ⟨rfl, b7⟩
          have d7 := d6.trans (b7.mono d6.size)
          have k0 := cell_later b7 k0
          have k1 := cell_later b7 k1
          have k2 := cell_later b7 k2
          go_wp2_with fail
          refine (HO.out _).mono ?_
          rintro e w8 ⟨rfl, b8⟩
          have d8 := d7.trans (b8.mono d7.size)
          have k0 := cell_later b8 k0
          have k1 := cell_later b8 k1
          have k2 := cell_later b8 k2
          have HF8 := Lib.hid (HFij.out w8 (HT0.out.same (below_nx c5 d8)))
          clear b6 b7 b8 d6 d7 hB
          go_wp2_with fail
          refine HF8.out.mono ?_
          rintro e w9 ⟨⟨r, x, hr, rfl⟩, b9⟩
          obtain ⟨e1, e2⟩ := HSj.out r x hr
          subst e1 e2
          have d9 := d8.trans (b9.mono d8.size)
          have HH := Lib.hid (has_any g cap y (2 * n) (clsN n S0) HCn.out (by omega) HCmj.out w9 (fun i hi => cell_later d9 (HX.out i hi)))
          have HD9 := Lib.hid d9
          clear hr b9 d8 d9 HF8 HSj
          go_wp2_with fail
          refine HH.out.mono ?_
          rintro e w10 ⟨rfl, rfl⟩
          go_wp2
          go_roundw
          case rel => exact ⟨r + 1, by omega, by go_num, HD9.out⟩
          case measure => simp only [intOf]; omega
        · have HBr := Lib.hid hB
          clear hB
          cases tu
          · simp only [Bool.false_eq_true, if_false] at HSet
            have HMs := Lib.hid (HMo.out S0 HS0l.out)
            go_wp2_with fail
            refine (HO.out _).mono ?_
            rintro e w11 ⟨rfl, b11⟩
            have c11 := below_nx cr b11
            have k0 := cell_later b11 k0
            have k1 := cell_later b11 k1
            have k2 := cell_later b11 k2
            go_wp2_with fail
            refine (HSh.out _).mono ?_
            rintro e w12 ⟨rfl, b12⟩
            have c12 := below_nx c11 b12
            have k0 := cell_later b12 k0
            have k1 := cell_later b12 k1
            have k2 := cell_later b12 k2
            go_wp2_with fail
            refine (HO.out _).mono ?_
            rintro e w13 ⟨rfl, b13⟩
            have c13 := below_nx c12 b13
            have k0 := cell_later b13 k0
            have k1 := cell_later b13 k1
            have k2 := cell_later b13 k2
            go_wp2_with fail
            refine (HTo.out _ HShl.out _).mono ?_
            rintro e w14 ⟨rfl, b14⟩
            have c14 := below_nx c13 b14
            have k0 := cell_later b14 k0
            have k1 := cell_later b14 k1
            have k2 := cell_later b14 k2
            rw [HSet.out]
            clear b11 b12 b13 b14 c11 c12 c13
            go_wp2_with fail
            refine (HMs.out _).mono ?_
            rintro e w15 ⟨rfl, b15⟩
            have c15 := below_nx c14 b15
            go_wp2_with fail
            refine (HAw.out _).mono ?_
            rintro e w16 ⟨rfl, b16⟩
            have c16 := below_nx c15 b16
            go_wp2
            go_ret
            exact ⟨rfl, c16⟩
          · simp only [if_true] at HSet
            have HMs := Lib.hid (HMo.out _ HMul.out)
            go_wp2_with fail
            refine (HO.out _).mono ?_
            rintro e w11 ⟨rfl, b11⟩
            have c11 := below_nx cr b11
            have k0 := cell_later b11 k0
            have k1 := cell_later b11 k1
            have k2 := cell_later b11 k2
            go_wp2_with fail
            refine (HSh.out _).mono ?_
            rintro e w12 ⟨rfl, b12⟩
            have c12 := below_nx c11 b12
            have k0 := cell_later b12 k0
            have k1 := cell_later b12 k1
            have k2 := cell_later b12 k2
            go_wp2_with fail
            refine (HO.out _).mono ?_
            rintro e w13 ⟨rfl, b13⟩
            have c13 := below_nx c12 b13
            have k0 := cell_later b13 k0
            have k1 := cell_later b13 k1
            have k2 := cell_later b13 k2
            go_wp2_with fail
            refine (HTo.out _ HShl.out _).mono ?_
            rintro e w14 ⟨rfl, b14⟩
            have c14 := below_nx c13 b14
            have k0 := cell_later b14 k0
            have k1 := cell_later b14 k1
            have k2 := cell_later b14 k2
            rw [HSet.out]
            have HTu14 := Lib.hid (HTu.out w14 (HT0.out.same c14))
            generalize mulN n S0 (-1) = S1 at *
            clear b11 b12 b13 b14 c11 c12 c13
            go_wp2_with fail
            refine HTu14.out.mono ?_
            rintro e w15 ⟨rfl, b15⟩
            have c15 := below_nx c14 b15
            have k0 := cell_later b15 k0
            have k1 := cell_later b15 k1
            have k2 := cell_later b15 k2
            go_wp2_with fail
            refine (HMs.out _).mono ?_
            rintro e w16 ⟨rfl, b16⟩
            have c16 := below_nx c15 b16
            go_wp2_with fail
            refine (HAw.out _).mono ?_
            rintro e w17 ⟨rfl, b17⟩
            have c17 := below_nx c16 b17
            go_wp2
            go_ret
            exact ⟨rfl, c17⟩

end Go.Proofs.YtibkhjbcagihbaaDoor
