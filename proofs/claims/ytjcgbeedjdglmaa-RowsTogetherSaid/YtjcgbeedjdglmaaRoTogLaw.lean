/-
  The statement on rows that go together.
-/
import Derived.Test.YtjcgbeedjdglmaaRoTog
import Derived.Test.YtjcgbeedjdglmaaRoTogMath
import Derived.Test.YtjcgbeedjdglmaaRoSort
import Derived.Test.YtjcgbeedjdglmaaRoHalfLaw2
namespace Go.Proofs.Ytjcgbeedjdglmaa
open Go.ChangeShapes Go.WideShapes Go.ChangeAt Go.RowKit
set_option maxRecDepth 100000

theorem ints_apart {W W' : World} {base : Nat} {t : TypeId} {v : Value} {n g : Nat} {zs : List Value} {xs : List Int} {W0 : World} (h : IntsV W v xs) (ho : W0.ownsRow base t 1 v n zs) (hn : 0 < n) (hg : W.grownBy W' (some g)) (hne : v.ownBlock ≠ some g) : IntsV W' v xs := by
  obtain ⟨_, ⟨_, h0⟩ | ⟨g0, cp, cur, rfl, _, _, _⟩⟩ := ho
  · omega
  · obtain ⟨ao, cap, e, hl, hd⟩ := h
    cases e
    refine ⟨_, _, rfl, hl, fun h0 => ?_⟩
    obtain ⟨b, off, e, hd2⟩ := hd h0
    cases e
    refine ⟨g0, 0, rfl, fun i hi => ?_⟩
    have hc := hd2 i hi
    exact (World.cell?_of_block (w := W) (hg.block g0 (World.block_lt_of_cell? _ _ hc) (fun e => hne (by simp only [Value.ownBlock]; exact e)))).trans hc

theorem own_block {W : World} {base : Nat} {t : TypeId} {v : Value} {n : Nat} {zs : List Value} (h : W.ownsRow base t 1 v n zs) (hn : 0 < n) : ∃ g, v.ownBlock = some g ∧ base ≤ g ∧ g < W.heap.size := by
  obtain ⟨_, ⟨_, h0⟩ | ⟨g0, cp, cur, rfl, h1, h2, _⟩⟩ := h
  · omega
  · exact ⟨g0, rfl, h1, (Array.getElem?_eq_some_iff.1 h2).1⟩

theorem own_later1 {W W' : World} {base : Nat} {e : TypeId} {n : Nat} {v : Value} {xs : List Value} (h : W.ownsRow base e 1 v n xs) (hb : Below W.heap.size W W') : W'.ownsRow base e 1 v n xs := own_later h hb

theorem two_own {w5 x y : World} {base1 : Nat} {t : TypeId} {va vb : Value} {n m : Nat} {zs us : List Value} (h1 : x.ownsRow base1 t 1 va n zs) (hb1 : w5.heap.size ≤ base1) (b1 : Below x.heap.size x y) (h2 : y.ownsRow x.heap.size t 1 vb m us) (hx : w5.heap.size ≤ x.heap.size) (hn : 0 < n) (hm : 0 < m) :
    ∃ ga gb, y.ownsRow w5.heap.size t 1 va n zs ∧ y.ownsRow w5.heap.size t 1 vb m us ∧ va.ownBlock = some ga ∧ vb.ownBlock = some gb ∧ ga ≠ gb ∧ w5.heap.size ≤ ga ∧ w5.heap.size ≤ gb := by
  obtain ⟨ga, e1, l1, l2⟩ := own_block h1 hn
  obtain ⟨gb, e2, l3, l4⟩ := own_block h2 hm
  have weak : ∀ {A : World} {c : Nat} {u : Value} {j : Nat} {ws : List Value}, w5.heap.size ≤ c → A.ownsRow c t 1 u j ws → A.ownsRow w5.heap.size t 1 u j ws := by
    intro A c u j ws hc h
    obtain ⟨h0, h | ⟨g, cap, cur, h1, h2, h3⟩⟩ := h
    · exact ⟨h0, Or.inl h⟩
    · exact ⟨h0, Or.inr ⟨g, cap, cur, h1, by omega, h3⟩⟩
  exact ⟨ga, gb, weak hb1 (own_later1 h1 b1), weak hx h2, e1, e2, by omega, by omega, by omega⟩

theorem half_eq {n : Nat} {ys : List Nat} (hr : IsRow n ys) (he : n % 2 = 0) (k m : Nat) (hk : k < 4) (hm : m < n) :
    (sortI ((natI ys).take (n / 2)) == sortI ((natI (formL n k m ys)).drop (n / 2))) = decide ((k, m) ∈ withL n ys) := by
  rw [Bool.eq_iff_iff, beq_iff_eq, decide_eq_true_eq, sort_eq, mem_with _ hk hm, goes_perm hr he]
  have e1 : (natI ys).take (n / 2) = natI (ys.take (n / 2)) := by unfold natI; rw [List.map_take]
  have e2 : (natI (formL n k m ys)).drop (n / 2) = natI ((formL n k m ys).drop (n / 2)) := by unfold natI; rw [List.map_drop]
  rw [e1, e2]
  constructor
  · intro h
    have h2 := h.map Int.toNat
    have e3 : ∀ l : List Nat, (natI l).map Int.toNat = l := fun l => by
      unfold natI; rw [List.map_map]; exact (List.map_congr_left (g := id) (fun x _ => by simp)).trans (List.map_id _)
    rwa [e3, e3] at h2
  · intro h
    exact h.map _

set_option maxHeartbeats 4000000 in
theorem RowsTogether_walk (xs : List Int) (kd mv : Int) (v : Value) (w : World) (hl : xs.length ≤ maxLen) (h : IntsV w v xs) (wk : (Lit.int .i64 kd).wf = true) (wm : (Lit.int .i64 mv).wf = true) :
    Calls Try.prog 15 #[v, .int .i64 kd, .int .i64 mv] w fun e w' => e = .returned (.bool true) ∧ Below w.heap.size w w' := by
  have HAw := Lib.hid (fun W => awake_any W)
  have HL := Lib.hid (fun W hW => list_any xs v W hl hW)
  have HRo := Lib.hid (fun W hW => RRow_any xs v W hl hW)
  have H := Lib.hid h
  obtain ⟨ao, cap, hv, hlc, _⟩ := h
  have bad : (rowB xs = false ∨ xs.length % 2 = 1) → Calls Try.prog 15 #[v, .int .i64 kd, .int .i64 mv] w fun e w' => e = .returned (.bool true) ∧ Below w.heap.size w w' := by
    intro hb
    have HF := Lib.hid (show ∀ u W, IntsV W u (xs.take 13) → Calls Try.prog 46 #[u] W fun e w' => e = .returned (.tuple #[.slice none 0 0, .int .i64 2]) ∧ Below W.heap.size W w' from fun u W hu => by
      cases hr : rowB xs
      · exact With_bad (xs.take 13) (take_len xs) (by rw [row_take]; exact hr) u W hu
      · obtain ⟨ys, rfl, hR⟩ := row_nat hr
        rw [row_take13 hR] at hu
        rcases hb with h | h
        · rw [hr] at h; cases h
        · exact With_odd _ ys hR (by rw [natI_length] at h; exact h) u W hu)
    subst hv
    go_enter Try.func15, Try.ntmps15
    go_wp2_with fail
    refine (HL.out _ H.out).mono ?_
    rintro e w1 ⟨v1, rfl, i1, b1⟩
    have J1 := Lib.hid (HF.out v1 w1 i1)
    clear i1
    go_wp2_with fail
    refine J1.out.mono ?_
    rintro e w2 ⟨rfl, b2⟩
    have B2 := Lib.hid (below_nx b1 b2)
    clear b1 b2
    go_wp2_with fail
    refine (HAw.out _).mono ?_
    rintro e w5 ⟨rfl, b5⟩
    go_wp2
    go_ret
    exact ⟨rfl, below_nx B2.out b5⟩
  cases hr : rowB xs
  · exact bad (.inl hr)
  by_cases ho : xs.length % 2 = 1
  · exact bad (.inr ho)
  clear bad
  obtain ⟨ys, rfl, hR⟩ := row_nat hr
  rw [row_take13 hR] at HL
  rw [hr] at HRo
  rw [natI_length] at hv ho hlc
  have he : ys.length % 2 = 0 := by omega
  have hlo := hR.lo
  have hhi := hR.hi
  have HF := Lib.hid (fun u W hu => With_ok _ ys hR he u W hu)
  obtain ⟨κ, hκ1, hκ2⟩ : ∃ κ : Nat, (IntKind.u64.wrap kd).tmod 4 = (κ : Int) ∧ κ < 4 := by
    obtain ⟨U, hU⟩ : ∃ U : Nat, IntKind.u64.wrap kd = (U : Int) := Int.eq_ofNat_of_zero_le (wrap_u64_nonneg kd)
    exact ⟨U % 4, by rw [hU, Int.tmod_eq_emod_of_nonneg (by omega)]; simp, Nat.mod_lt _ (by omega)⟩
  obtain ⟨μ, hμ1, hμ2⟩ : ∃ μ : Nat, (IntKind.u64.wrap mv).tmod (ys.length : Int) = (μ : Int) ∧ μ < ys.length := by
    obtain ⟨U, hU⟩ : ∃ U : Nat, IntKind.u64.wrap mv = (U : Int) := Int.eq_ofNat_of_zero_le (wrap_u64_nonneg mv)
    exact ⟨U % ys.length, by rw [hU, Int.tmod_eq_emod_of_nonneg (by omega)]; simp, Nat.mod_lt _ (by omega)⟩
  have ey : ((μ : Int) % (ys.length : Int)).toNat = μ := by rw [Int.emod_eq_of_lt (by omega) (by omega)]; simp
  have HFo := Lib.hid (fun u W hu => Form_ok _ ys hR κ hκ2 (μ : Int) u W hu)
  rw [ey] at HFo
  have HHe := Lib.hid (half_eq hR he κ μ hκ2 hμ2)
  have HBk := Lib.hid (show decide ((2, 0) ∈ withL ys.length ys) = true from decide_eq_true ((mem_with (2, 0) (by decide) (show 0 < ys.length by omega)).2 (goes_back hR he)))
  have hlw : (withL ys.length ys).length ≤ 64 := by
    have h1 := List.length_filter_le (goesB ys.length ys) (namesL ys.length (4 * ys.length))
    rw [namesL_length] at h1
    unfold withL withN
    omega
  have HC1 := Lib.hid (fun u W hu => ContPair_any (withL ys.length ys) hlw κ μ u W hu)
  have HC2 := Lib.hid (fun u W hu => ContPair_any (withL ys.length ys) hlw 2 0 u W hu)
  have HFl := Lib.hid (show (natI (formL ys.length κ μ ys)).length = ys.length by rw [natI_length, formL_length])
  have hq : (((ys.length : Nat) : Int) % 2 == 1) = false := by rw [beq_eq_false_iff_ne]; omega
  clear hr hl hR hlw ho he ey
  generalize withL ys.length ys = wl at *
  generalize hF : natI (formL ys.length κ μ ys) = F at *
  clear hF
  have hxl : (natI ys).length = ys.length := natI_length ys
  generalize natI ys = xs at *
  generalize ys.length = n at *
  subst hv
  go_enter Try.func15, Try.ntmps15
  go_wp2_with fail
  refine (HL.out _ H.out).mono ?_
  rintro e w1 ⟨v1, rfl, i1, b1⟩
  have J1 := Lib.hid (HF.out v1 w1 i1)
  clear i1
  go_wp2_with fail
  refine J1.out.mono ?_
  rintro e w2 ⟨v2, rfl, i2, b2⟩
  have B2 := Lib.hid (below_nx b1 b2)
  have P2 := Lib.hid (PairsAt.of_own i2)
  have K2 := Lib.hid (H.out.later B2.out)
  clear b1 b2 i2
  go_wp2_with fail
  refine (HRo.out _ K2.out).mono ?_
  rintro e w3 ⟨rfl, rfl⟩
  go_wp2
  go_quiet (fail)
  have B3 := Lib.hid (below_drewN B2.out nq)
  have P3 := Lib.hid (P2.out.later (below_drewN (Below.refl w2.heap.size w2) nq))
  have K3 := Lib.hid (H.out.later B3.out)
  clear B2 P2 K2
  generalize w2.drewN nq = w3 at B3 P3 K3 ⊢
  go_wp2_with fail
  refine (HL.out _ K3.out).mono ?_
  rintro e w4 ⟨v4, rfl, i4, b4⟩
  have J4 := Lib.hid (HFo.out v4 w4 i4)
  have B4 := Lib.hid (below_nx B3.out b4)
  have P4 := Lib.hid (P3.out.later b4)
  clear i4 b4
  go_wp2_with fail
  refine J4.out.mono ?_
  rintro e w5 ⟨vf, rfl, if5, b5⟩
  have B5 := Lib.hid (below_nx B4.out b5)
  have P5 := Lib.hid (P4.out.later b5)
  have K5 := Lib.hid (H.out.later B5.out)
  have F5 := Lib.hid if5
  obtain ⟨af, cf, rfl, hlf, _⟩ := if5
  rw [HFl.out] at hlf F5 ⊢
  clear b5
  have hj0 : (0 : Int) ≤ (n : Int) / 2 := by omega
  have hjc : (n : Int) / 2 ≤ (cap : Int) := by omega
  have hjn : (n : Int) / 2 ≤ (n : Int) := by omega
  have hwj : IntKind.i64.wrap ((n : Int) / 2) = (n : Int) / 2 := IntWalk.i64_in _ (by omega)
  have hs1 := fun W => run_upto ao n cap ((n : Int) / 2) hj0 hjc W
  have hs2 := fun W => run_from af n cf ((n : Int) / 2) hj0 hjn W
  have ej : ((n : Int) / 2).toNat = n / 2 := by omega
  rw [ej] at hs1 hs2
  have HU1 := Lib.hid (fun W hW => IntsV.upto (W := W) (ao := ao) (len := n) (cap := cap) (xs := xs) hW (n / 2) (by omega))
  have HU2 := Lib.hid (fun W hW => IntsV.from (W := W) (ao := af) (len := n) (cap := cf) (xs := F) hW (n / 2) (by omega))
  unfold sliced at hs1 hs2 HU1 HU2
  simp only [Nat.sub_zero] at hs1 HU1
  generalize (if cap = 0 then ao else Option.map (fun x => x.add (0 * 1)) ao) = A1 at hs1 HU1
  generalize (if cf = n / 2 then af else Option.map (fun x => x.add (n / 2 * 1)) af) = A2 at hs2 HU2
  have hla : (xs.take (n / 2)).length = n / 2 := by rw [List.length_take, hxl]; omega
  have hlb : (F.drop (n / 2)).length = n - n / 2 := by rw [List.length_drop, HFl.out]
  have CA := Lib.hid (fun W (hW : Below w5.heap.size w5 W) => (Clone_own (xs.take (n / 2)) _ W (by omega) (by omega) (HU1.out W (K5.out.later hW))).mono (fun e w' h => show ∃ v', e = .returned v' ∧ w'.ownsRow W.heap.size 3 1 v' (xs.take (n / 2)).length (ivals (xs.take (n / 2))) ∧ Below W.heap.size W w' ∧ Below w5.heap.size w5 w' from by
    obtain ⟨v', e1, e2, e3⟩ := h
    exact ⟨v', e1, e2, e3, below_nx hW e3⟩))
  have CB := Lib.hid (fun W (hW : Below w5.heap.size w5 W) => (Clone_own (F.drop (n / 2)) _ W (by omega) (by omega) (HU2.out W (F5.out.later hW))).mono (fun e w' h => show ∃ v', e = .returned v' ∧ w'.ownsRow W.heap.size 3 1 v' (F.drop (n / 2)).length (ivals (F.drop (n / 2))) ∧ Below W.heap.size W w' ∧ Below w5.heap.size w5 w' from by
    obtain ⟨v', e1, e2, e3⟩ := h
    exact ⟨v', e1, e2, e3, below_nx hW e3⟩))
  go_wp2_with fail
  have HB5 := Lib.hid (Below.refl w5.heap.size w5).drew
  have hmx : Try.prog.follows .mixedOrders = true := by kernel_rfl
  go_region_held3 (fun w' => Below w5.heap.size w5 w') (first | exact HB5.out | assumption) ((first | (go_at_call 53; refine (CA.out _ (by assumption)).mono ?_; rintro e wa ⟨va, rfl, oa, ba, ta⟩) | (go_at_call 53; refine (CB.out _ (by assumption)).mono ?_; rintro e wb ⟨vb, rfl, ob, bb, tb⟩)))
  obtain ⟨ga, gb, o1, o2, e1, e2, hne, l1, l2⟩ := two_own (w5 := w5) oa (Nat.le_refl _) bb ob ta.size (by omega) (by omega)
  have SA := Lib.hid (Sort_own w5.heap.size (xs.take (n / 2)) va wb (by omega) (by omega) o1)
  have O1 := Lib.hid o1
  have O2 := Lib.hid o2
  have T := Lib.hid tb
  have E1 := Lib.hid e1
  have E2 := Lib.hid e2
  clear oa ob ba bb ta tb o1 o2 hs1 hs2
  try dsimp only [Exit.then]
  go_wp2_with fail
  refine SA.out.mono ?_
  rintro e w6 ⟨rfl, i6, g6⟩
  rw [E1.out] at g6
  have O6 := Lib.hid (O2.out.kept g6 (.inr (by rw [E2.out]; intro e; exact hne (Option.some.inj e).symm)))
  have B6 := Lib.hid (T.out.grown g6 T.out.size (fun q e => by cases e; exact l1))
  have I6 := Lib.hid i6
  have SB := Lib.hid (Sort_own w5.heap.size (F.drop (n / 2)) vb w6 (by omega) (by omega) O6.out)
  clear i6 g6
  go_wp2_with fail
  refine SB.out.mono ?_
  rintro e w7 ⟨rfl, i7, g7⟩
  rw [E2.out] at g7
  have I7 := Lib.hid (ints_apart I6.out O1.out (by omega) g7 (by rw [E1.out]; intro e; exact hne (Option.some.inj e)))
  have B7 := Lib.hid (B6.out.grown g7 B6.out.size (fun q e => by cases e; exact l2))
  have J7 := Lib.hid (Equal_any _ _ va vb w7 (by rw [sortI_length]; unfold maxLen; omega) (by rw [sortI_length]; unfold maxLen; omega) I7.out i7)
  rw [HHe.out] at J7
  have P7 := Lib.hid (P5.out.later B7.out)
  clear i7 g7
  go_wp2_with fail
  refine J7.out.mono ?_
  rintro e w8 ⟨rfl, q8, rfl⟩
  have B8 := Lib.hid (below_drewN B7.out q8)
  have P8 := Lib.hid (P5.out.later B8.out)
  generalize w7.drewN q8 = w8 at B8 P8 ⊢
  have Q8 := Lib.hid (HC1.out v2 w8 P8.out)
  go_wp2_with fail
  refine Q8.out.mono ?_
  rintro e w9 ⟨rfl, b9⟩
  have B9 := Lib.hid (below_nx B8.out b9)
  have P9 := Lib.hid (P8.out.later b9)
  have Q9 := Lib.hid (HC2.out v2 w9 P9.out)
  rw [HBk.out] at Q9
  clear b9
  generalize decide ((κ, μ) ∈ wl) = d at *
  have hdd : (d == d) = true := beq_self_eq_true d
  go_wp2_with fail
  refine Q9.out.mono ?_
  rintro e w10 ⟨rfl, b10⟩
  have B10 := Lib.hid (below_nx B9.out b10)
  clear b10
  go_wp2_with fail
  refine (HAw.out _).mono ?_
  rintro e w11 ⟨rfl, b11⟩
  go_wp2
  go_ret
  exact ⟨rfl, below_nx B5.out (below_nx B10.out b11)⟩
end Go.Proofs.Ytjcgbeedjdglmaa
