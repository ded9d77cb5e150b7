/-
  The statement on forms of rows made of one part: the walk.
-/
import Derived.Test.YtdfagnjdconkcaaRoMadeLaw
import Derived.Test.YtdfagnjdconkcaaRoPartMath
namespace Go.Proofs.Ytdfagnjdconkcaa
open Go.ChangeShapes Go.WideShapes Go.ChangeAt Go.RowKit Go.Shelf
set_option linter.unusedVariables false
set_option maxRecDepth 100000

theorem info_intP : (Try.prog.info? 3).map (fun i => (i.zero, i.size, i.bytes)) = some (some (.int .i64 0), 1, 8) := by kernel_rfl
theorem umodP (x : Int) {n : Nat} (h : 0 < n) (hn : n < 17) : ∃ u : Nat, (IntKind.u64.wrap x).tmod (n : Int) = (u : Int) ∧ u < n ∧ IntKind.u64.wrap (n : Int) = (n : Int) := by
  have e : IntKind.u64.wrap x = x % 18446744073709551616 := IntKind.wrap_u64 x
  have e2 : IntKind.u64.wrap (n : Int) = (n : Int) % 18446744073709551616 := IntKind.wrap_u64 _
  obtain ⟨U, hU⟩ : ∃ U : Nat, x % 18446744073709551616 = (U : Int) := Int.eq_ofNat_of_zero_le (by omega)
  exact ⟨U % n, by rw [e, hU, Int.tmod_eq_emod_of_nonneg (by omega)]; simp, Nat.mod_lt _ h, by rw [e2]; omega⟩
theorem cell_one_P {W : World} {g : Nat} (hg : W.heap.size = g) (v : Value) (t : TypeId) : ∀ (j : Nat) (x : Value), [v][j]? = some x → (W.alloc (.cells #[v] t)).cell? ((⟨g, 0, none⟩ : Addr).add j) = some x := by
  subst hg
  intro j x h
  match j, h with
  | 0, h => simp at h; subst h; simp [Addr.add]
theorem ints_own {W : World} {L : Nat} {v : Value} {zs : List Nat} (h : W.ownsRow L 3 1 v zs.length ((natI zs).map (Value.int .i64))) : IntsV W v (natI zs) := by
  obtain ⟨h0, ⟨rfl, h2⟩ | ⟨g, cap, cur, rfl, hg, hh, h3, h4, h5, h6⟩⟩ := h
  · obtain rfl := List.eq_nil_of_length_eq_zero h2
    exact ⟨none, 0, rfl, Nat.le_refl _, fun h => by simp [natI] at h⟩
  · refine ⟨some ⟨g, 0, none⟩, cap, by rw [natI_length], by rw [natI_length]; exact h3, fun _ => ⟨g, 0, rfl, fun i hi => ?_⟩⟩
    rw [natI_length] at hi
    have e := congrArg (fun l => l[i]?) h6
    simp only [Nat.mul_one, List.getElem?_take, hi, if_true] at e
    rw [Nat.zero_add, cell_of_row W g i cur _ _ hh, ← Array.getElem?_toList, e]
    simp [natI, hi]
theorem one_more (n g k : Nat) (h : k < n) : (natI ((oneL n g).take (k + 1))).map (Value.int .i64) = (natI ((oneL n g).take k)).map (Value.int .i64) ++ [.int .i64 ((k * g % n : Nat) : Int)] := by
  have hl := oneL_length n g
  rw [List.take_succ_eq_append_getElem (by omega)]
  unfold natI
  rw [List.map_append, List.map_append]
  have e : (oneL n g)[k]'(by omega) = k * g % n := by unfold oneL; simp
  rw [e]
  rfl
theorem gcd_step {x y : Nat} : Nat.gcd y (x % y) = Nat.gcd x y := by rw [Nat.gcd_comm y, ← Nat.gcd_rec, Nat.gcd_comm]

theorem bl_NP {B : Nat} {W0 W : World} (h : Below B W0 W) (n : Nat) : Below B W0 (W.drewN n) := ⟨h.os, h.tape, h.output, h.size, h.block⟩

set_option maxHeartbeats 4000000 in
theorem RowsParts_walk (xs : List Int) (d kind k : Int) (v : Value) (w : World) (hl : xs.length ≤ maxLen) (h : IntsV w v xs) (wd : (Lit.int .i64 d).wf = true) (_ : (Lit.int .i64 kind).wf = true) (_ : (Lit.int .i64 k).wf = true) :
    Calls Try.prog 4 #[v, .int .i64 d, .int .i64 kind, .int .i64 k] w fun e w' => e = .returned (.bool true) ∧ Below w.heap.size w w' := by
  have hmx : Try.prog.follows .mixedOrders = true := by kernel_rfl
  have HAw := Lib.hid (fun W => awake_any W)
  have HL := Lib.hid (fun W hW => list_any xs v W hl hW)
  have HRo := Lib.hid (fun W hW => RRow_any xs v W hl hW)
  have H := Lib.hid h
  obtain ⟨ao, cap, hv, _⟩ := h
  by_cases hgd : rowB xs = true ∧ goodD xs.length d = true
  · obtain ⟨hr, hg⟩ := hgd
    obtain ⟨ys, rfl, hR⟩ := row_nat hr
    have hlo := hR.lo
    have hhi := hR.hi
    rw [natI_length] at hg hv
    have HLn := Lib.hid (fun W => RLength_any (ys.length : Int) d (by omega) (by omega) wd W)
    rw [hr] at HRo
    rw [hg] at HLn
    rw [row_take13 hR] at HL
    have hgd : 2 ≤ d ∧ d ≤ (ys.length : Int) / 2 ∧ (ys.length : Int) % d = 0 := of_decide_eq_true hg
    obtain ⟨g1, g2, g3⟩ := hgd
    obtain ⟨m, rfl⟩ := Int.eq_ofNat_of_zero_le (show 0 ≤ d by omega)
    have hqm : ys.length = ys.length / m * m := by
      have : ys.length % m = 0 := by exact_mod_cast g3
      exact (Nat.div_mul_cancel (Nat.dvd_of_mod_eq_zero this)).symm
    obtain ⟨u, hu1, hu2, _⟩ := umodP kind (n := 4) (by decide) (by decide)
    obtain ⟨t, ht1, ht2, ht3⟩ := umodP k (n := ys.length) (by omega) (by omega)
    have hkn : (k % (ys.length : Int)).toNat < ys.length := by
      have h1 := Int.emod_nonneg k (show (ys.length : Int) ≠ 0 by omega)
      have h2 := Int.emod_lt_of_pos k (show 0 < (ys.length : Int) by omega)
      omega
    have HM := Lib.hid (fun u W hu => Made_ok ys.length m (ys.length / m) ys hR hr (by omega) (by omega) hqm u W hu)
    have HFo := Lib.hid (fun v1 W hV => Form_ok ys.length ys hR u hu2 k v1 W hV)
    have hRf := hR.form u (k % (ys.length : Int)).toNat
    have HM2 := Lib.hid (fun v1 W hV => Made_ok ys.length m (ys.length / m) _ hRf (row_of hRf) (by omega) (by omega) hqm v1 W hV)
    rw [made_form hlo hhi (by omega) hqm rfl hR.lt hu2 hkn] at HM2
    have HM3 := Lib.hid (fun (hc : Nat.gcd (1 + t) ys.length = 1) v1 W hV => Made_ok ys.length m (ys.length / m) (oneL ys.length (1 + t)) (one_row hlo hhi hc) (row_of (one_row hlo hhi hc)) (by omega) (by omega) hqm v1 W hV)
    rw [one_made hlo (by omega) hqm] at HM3
    have hwu : IntKind.i64.wrap (u : Int) = (u : Int) := IntWalk.i64_in _ (by omega)
    have hwt : IntKind.i64.wrap (t : Int) = (t : Int) := IntWalk.i64_in _ (by omega)
    clear hr hl hg hR hqm g1 g2 g3 hRf
    generalize madeB ys.length ys m = mb at *
    generalize natI (formL ys.length u (k % (ys.length : Int)).toNat ys) = fs at *
    generalize natI ys = xs at *
    generalize ys.length = n at *
    subst hv
    obtain ⟨i0, hi, hz0, hz1, hz2⟩ := info_parts info_intP
    obtain ⟨G, hG⟩ : ∃ G, G = 1 + t := ⟨_, rfl⟩
    rw [← hG] at HM3
    have hGt : (1 : Int) + (t : Int) = (G : Int) := by omega
    have hG10 : G ≤ 10 := by omega
    have hn0 : ¬ (n : Int) = 0 := by omega
    have hu4 : (IntKind.u64.wrap kind).tmod 4 = (u : Int) := hu1
    clear hG hkn hu1
    go_enter Try.func4, Try.ntmps4
    go_wp2_with fail
    refine (HL.out _ H.out).mono ?_
    rintro e w1 ⟨v1, rfl, i1, b1⟩
    have J1 := Lib.hid (HM.out v1 w1 i1)
    clear i1
    go_wp2_with fail
    refine J1.out.mono ?_
    rintro e w2 ⟨rfl, b2⟩
    have B2 := Lib.hid (below_nx b1 b2)
    have K2 := Lib.hid (H.out.later B2.out)
    clear b1 b2 J1
    go_wp2_with fail
    refine (HRo.out _ K2.out).mono ?_
    rintro e w3 ⟨rfl, rfl⟩
    go_wp2_with fail
    refine (HLn.out _).mono ?_
    rintro e w4 ⟨rfl, rfl⟩
    go_wp2_with fail
    refine (HL.out _ K2.out).mono ?_
    rintro e w5 ⟨v5, rfl, i5, b5⟩
    have J5 := Lib.hid (HFo.out v5 w5 i5)
    have B5 := Lib.hid (below_nx B2.out b5)
    clear i5 b5 K2
    go_wp2_with fail
    refine J5.out.mono ?_
    rintro e w6 ⟨v6, rfl, i6, b6⟩
    have J6 := Lib.hid (HM2.out v6 w6 i6)
    have B6 := Lib.hid (below_nx B5.out b6)
    clear i6 b6 J5
    go_wp2_with fail
    refine J6.out.mono ?_
    rintro e w7 ⟨rfl, b7⟩
    have B7 := Lib.hid (below_nx B6.out b7)
    clear b7 J6
    cases mb
    · go_wp2_with fail
      go_loopw [15, 16] (fun xv yv wr => ∃ x y : Nat, xv = .int .i64 x ∧ yv = .int .i64 y ∧ x ≤ 10 ∧ y ≤ 10 ∧ Nat.gcd x y = Nat.gcd G n ∧ Below w.heap.size w wr) (fun _ yv _ => (intOf yv).toNat)
      case atStart => exact ⟨G, n, rfl, rfl, hG10, hhi, rfl, B7.out⟩
      case round =>
        obtain ⟨x, y, rfl, rfl, hx, hy, hgc, hB⟩ := hrel
        have HB := Lib.hid hB
        have HG := Lib.hid hgc
        clear hB hgc
        by_cases hy0 : y = 0
        · have hyb : ((y : Int) != 0) = false := by simp [hy0]
          have hxg : x = Nat.gcd G n := by rw [← HG.out, hy0, Nat.gcd_zero_right]
          have HX := Lib.hid hxg
          clear hxg hy0
          by_cases hx1 : x = 1
          · have hxb : ((x : Int) != 1) = false := by simp [hx1]
            have HM4 := Lib.hid (HM3.out (by rw [← HX.out]; exact hx1))
            clear hx1
            obtain ⟨L, hL⟩ : ∃ L, wr.heap.size = L := ⟨_, rfl⟩
            have HLz := Lib.hid hL
            have hwL : w.heap.size ≤ L := by have := HB.out.size; omega
            obtain ⟨W9, hW9⟩ : ∃ W9, W9 = wr := ⟨wr, rfl⟩
            subst hW9
            clear hL
            go_wp2_with fail
            go_loopw [17, 18, 92] (fun nv _ iv wq => ∃ j : Nat, j ≤ n ∧ iv = .int .i64 j ∧ wq.ownsRow L 3 1 nv j ((natI ((oneL n G).take j)).map (Value.int .i64)) ∧ Below W9.heap.size W9 wq) (fun _ _ iv _ => n - (intOf iv).toNat)
            case atStart => exact ⟨0, Nat.zero_le _, rfl, World.ownsRow_nil _ _ _ _, Below.refl _ _⟩
            case round =>
              obtain ⟨j, hj, rfl, hown, hBq⟩ := hrel
              have HO := Lib.hid hown
              have HBq := Lib.hid hBq
              have hsz : L ≤ wr.heap.size := by have := hBq.size; have := HLz.out; omega
              clear hown hBq
              by_cases hjn : j < n
              · obtain ⟨p, hp⟩ : ∃ p, j * G = p := ⟨_, rfl⟩
                have hpm : (j : Int) * (G : Int) = (p : Int) := by rw [← hp]; exact (Int.natCast_mul j G).symm
                have hp90 : p ≤ 100 := by rw [← hp]; exact Nat.mul_le_mul (show j ≤ 10 by omega) hG10
                have HMo := Lib.hid (one_more n G j hjn)
                rw [hp] at HMo
                clear hp
                go_wp2_with (at_builtin; refine wpList_append_own _ rfl _ _ 22 rfl L 3 i0 (.int .i64 0) 1 8 Try.underlying22 hi hz0 hz1 hz2 rfl (by decide) _ _ _ rfl (HO.out.alloc _) ⟨wr.heap.size, 0, none⟩ 1 1 [.int .i64 ((p : Int) % (n : Int))] rfl rfl (cell_one_P rfl _ _) (by simp [Value.oneCell']) (by unfold maxLen; omega) (by omega) (by simp; omega) ?_; intro v' w9 hown9 hgrow9 hnil9)
                have HO9 := Lib.hid (show w9.ownsRow L 3 1 v' (j + 1) ((natI ((oneL n G).take (j + 1))).map (Value.int .i64)) by rw [HMo.out, Int.natCast_emod]; exact hown9)
                have HB9 := Lib.hid ((HBq.out.alloc (by have := HLz.out; omega) (.cells #[.int .i64 ((p : Int) % (n : Int))] 3)).grown hgrow9 (by simp; have := HLz.out; omega) (fun q e => by have := (HO.out.lt q e).1; have := HLz.out; omega))
                clear hown9 hgrow9 hnil9
                go_wp2
                go_roundw
                case rel => exact ⟨j + 1, hjn, by go_num, HO9.out, HB9.out⟩
                case measure => simp only [intOf]; omega
              · obtain rfl : j = n := by omega
                have HV := Lib.hid (ints_own (W := wr) (L := L) (zs := oneL j G) (by have h := HO.out; rw [List.take_of_length_le (by rw [oneL_length]; exact Nat.le_refl _)] at h; rw [oneL_length]; exact h))
                have HBw := Lib.hid (below_nx HB.out HBq.out)
                have J9 := Lib.hid (HM4.out _ wr HV.out)
                go_wp2_with fail
                refine J9.out.mono ?_
                rintro e wa ⟨rfl, ba⟩
                have Ba := Lib.hid (below_nx HBw.out ba)
                clear ba
                go_wp2_with fail
                refine (HAw.out _).mono ?_
                rintro e wb ⟨rfl, bb⟩
                go_wp2
                go_ret
                exact ⟨rfl, below_nx Ba.out bb⟩
          · have hx1' : ¬ (x : Int) = 1 := by omega
            go_wp2_with fail
            refine (HAw.out _).mono ?_
            rintro e wb ⟨rfl, bb⟩
            go_wp2
            go_ret
            exact ⟨rfl, below_nx HB.out bb⟩
        · have hy0' : ¬ (y : Int) = 0 := by omega
          have HG2 := Lib.hid (show Nat.gcd y (x % y) = Nat.gcd G n by rw [gcd_step]; exact HG.out)
          have hml : x % y < y := Nat.mod_lt _ (by omega)
          have hmi : ((x % y : Nat) : Int) = (x : Int) % (y : Int) := Int.natCast_emod x y
          go_wp2_with fail
          go_quiet (fail)
          try dsimp only [Exit.then, Exit.inBlock]
          go_wp2
          go_roundw
          case rel => exact ⟨y, x % y, rfl, by rw [hmi], hy, by omega, HG2.out, bl_NP HB.out _⟩
          case measure => simp only [intOf]; omega
    · go_wp2_with fail
      go_loopw [15, 16] (fun xv yv wr => ∃ x y : Nat, xv = .int .i64 x ∧ yv = .int .i64 y ∧ x ≤ 10 ∧ y ≤ 10 ∧ Nat.gcd x y = Nat.gcd G n ∧ Below w.heap.size w wr) (fun _ yv _ => (intOf yv).toNat)
      case atStart => exact ⟨G, n, rfl, rfl, hG10, hhi, rfl, B7.out⟩
      case round =>
        obtain ⟨x, y, rfl, rfl, hx, hy, hgc, hB⟩ := hrel
        have HB := Lib.hid hB
        have HG := Lib.hid hgc
        clear hB hgc
        by_cases hy0 : y = 0
        · have hyb : ((y : Int) != 0) = false := by simp [hy0]
          have hxg : x = Nat.gcd G n := by rw [← HG.out, hy0, Nat.gcd_zero_right]
          have HX := Lib.hid hxg
          clear hxg hy0
          by_cases hx1 : x = 1
          · have hxb : ((x : Int) != 1) = false := by simp [hx1]
            have HM4 := Lib.hid (HM3.out (by rw [← HX.out]; exact hx1))
            clear hx1
            obtain ⟨L, hL⟩ : ∃ L, wr.heap.size = L := ⟨_, rfl⟩
            have HLz := Lib.hid hL
            have hwL : w.heap.size ≤ L := by have := HB.out.size; omega
            obtain ⟨W9, hW9⟩ : ∃ W9, W9 = wr := ⟨wr, rfl⟩
            subst hW9
            clear hL
            go_wp2_with fail
            go_loopw [17, 18, 92] (fun nv _ iv wq => ∃ j : Nat, j ≤ n ∧ iv = .int .i64 j ∧ wq.ownsRow L 3 1 nv j ((natI ((oneL n G).take j)).map (Value.int .i64)) ∧ Below W9.heap.size W9 wq) (fun _ _ iv _ => n - (intOf iv).toNat)
            case atStart => exact ⟨0, Nat.zero_le _, rfl, World.ownsRow_nil _ _ _ _, Below.refl _ _⟩
            case round =>
              obtain ⟨j, hj, rfl, hown, hBq⟩ := hrel
              have HO := Lib.hid hown
              have HBq := Lib.hid hBq
              have hsz : L ≤ wr.heap.size := by have := hBq.size; have := HLz.out; omega
              clear hown hBq
              by_cases hjn : j < n
              · obtain ⟨p, hp⟩ : ∃ p, j * G = p := ⟨_, rfl⟩
                have hpm : (j : Int) * (G : Int) = (p : Int) := by rw [← hp]; exact (Int.natCast_mul j G).symm
                have hp90 : p ≤ 100 := by rw [← hp]; exact Nat.mul_le_mul (show j ≤ 10 by omega) hG10
                have HMo := Lib.hid (one_more n G j hjn)
                rw [hp] at HMo
                clear hp
                go_wp2_with (at_builtin; refine wpList_append_own _ rfl _ _ 22 rfl L 3 i0 (.int .i64 0) 1 8 Try.underlying22 hi hz0 hz1 hz2 rfl (by decide) _ _ _ rfl (HO.out.alloc _) ⟨wr.heap.size, 0, none⟩ 1 1 [.int .i64 ((p : Int) % (n : Int))] rfl rfl (cell_one_P rfl _ _) (by simp [Value.oneCell']) (by unfold maxLen; omega) (by omega) (by simp; omega) ?_; intro v' w9 hown9 hgrow9 hnil9)
                have HO9 := Lib.hid (show w9.ownsRow L 3 1 v' (j + 1) ((natI ((oneL n G).take (j + 1))).map (Value.int .i64)) by rw [HMo.out, Int.natCast_emod]; exact hown9)
                have HB9 := Lib.hid ((HBq.out.alloc (by have := HLz.out; omega) (.cells #[.int .i64 ((p : Int) % (n : Int))] 3)).grown hgrow9 (by simp; have := HLz.out; omega) (fun q e => by have := (HO.out.lt q e).1; have := HLz.out; omega))
                clear hown9 hgrow9 hnil9
                go_wp2
                go_roundw
                case rel => exact ⟨j + 1, hjn, by go_num, HO9.out, HB9.out⟩
                case measure => simp only [intOf]; omega
              · obtain rfl : j = n := by omega
                have HV := Lib.hid (ints_own (W := wr) (L := L) (zs := oneL j G) (by have h := HO.out; rw [List.take_of_length_le (by rw [oneL_length]; exact Nat.le_refl _)] at h; rw [oneL_length]; exact h))
                have HBw := Lib.hid (below_nx HB.out HBq.out)
                have J9 := Lib.hid (HM4.out _ wr HV.out)
                go_wp2_with fail
                refine J9.out.mono ?_
                rintro e wa ⟨rfl, ba⟩
                have Ba := Lib.hid (below_nx HBw.out ba)
                clear ba
                go_wp2_with fail
                refine (HAw.out _).mono ?_
                rintro e wb ⟨rfl, bb⟩
                go_wp2
                go_ret
                exact ⟨rfl, below_nx Ba.out bb⟩
          · have hx1' : ¬ (x : Int) = 1 := by omega
            go_wp2_with fail
            refine (HAw.out _).mono ?_
            rintro e wb ⟨rfl, bb⟩
            go_wp2
            go_ret
            exact ⟨rfl, below_nx HB.out bb⟩
        · have hy0' : ¬ (y : Int) = 0 := by omega
          have HG2 := Lib.hid (show Nat.gcd y (x % y) = Nat.gcd G n by rw [gcd_step]; exact HG.out)
          have hml : x % y < y := Nat.mod_lt _ (by omega)
          have hmi : ((x % y : Nat) : Int) = (x : Int) % (y : Int) := Int.natCast_emod x y
          go_wp2_with fail
          go_quiet (fail)
          try dsimp only [Exit.then, Exit.inBlock]
          go_wp2
          go_roundw
          case rel => exact ⟨y, x % y, rfl, by rw [hmi], hy, by omega, HG2.out, bl_NP HB.out _⟩
          case measure => simp only [intOf]; omega
  · have HM := Lib.hid (fun u W hu => Made_bad (xs.take 13) d (by rw [List.length_take]; omega) (by
      cases hr : rowB xs
      · exact Or.inl (by rw [row_take]; exact hr)
      · have hx := row_len10 hr
        refine Or.inr ?_
        rw [List.take_of_length_le (by omega)]
        refine ⟨by omega, by omega, ?_⟩
        cases hg : goodD xs.length d
        · rfl
        · exact absurd ⟨hr, hg⟩ hgd) u W hu)
    clear hgd hl
    subst hv
    go_enter Try.func4, Try.ntmps4
    go_wp2_with fail
    refine (HL.out _ H.out).mono ?_
    rintro e w1 ⟨v1, rfl, i1, b1⟩
    have J1 := Lib.hid (HM.out v1 w1 i1)
    clear i1
    go_wp2_with fail
    refine J1.out.mono ?_
    rintro e w2 ⟨rfl, b2⟩
    have B2 := Lib.hid (below_nx b1 b2)
    clear b1 b2 J1
    go_wp2_with fail
    refine (HAw.out _).mono ?_
    rintro e w5 ⟨rfl, b5⟩
    go_wp2
    go_ret
    exact ⟨rfl, below_nx B2.out b5⟩
end Go.Proofs.Ytdfagnjdconkcaa
