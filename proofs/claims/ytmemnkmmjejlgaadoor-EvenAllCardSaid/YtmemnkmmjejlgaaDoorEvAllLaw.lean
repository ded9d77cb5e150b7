/-
  The walk of the statement that even scales are one up to moving.
-/
import Derived.Test.YtmemnkmmjejlgaaDoorEvAllFns
import Derived.Test.YtmemnkmmjejlgaaDoorEvTurnsLaw
namespace Go.Proofs.YtmemnkmmjejlgaaDoor
open Go.RowKit Go.Shelf
attribute [local go_sem] Oper.semAt_some
set_option maxRecDepth 100000

theorem setK_drop (xs : List Nat) {i : Nat} (hi : i < xs.length) : setK (xs.drop i) i = ((xs[i]?.getD 0) <<< i) ||| setK (xs.drop (i + 1)) (i + 1) := by
  rw [List.drop_eq_getElem_cons hi, List.getElem?_eq_getElem hi]
  rfl

/-- The rows of the list. -/
structure AllE (n k m : Nat) (E : List Nat) : Prop where
  len : E.length = n / Nat.gcd n k
  pos : 1 ≤ E.length
  top : E.length ≤ 16
  rises : ∀ i, i + 1 < E.length → E[i]?.getD 0 ≤ E[i + 1]?.getD 0
  moves : Lib.compact (zsort (movesL n (sprN n k m) n)) = E.map fun (x : Nat) => (x : Int)

theorem allE {n k m : Nat} (h1 : 2 ≤ n) (h2 : n ≤ 16) (h3 : 1 ≤ k) (h4 : k ≤ n) (hm : m < n) : AllE n k m (listE n k) := by
  have hlen := listE_count h1 h2 h3 h4
  have hpos : 1 ≤ (listE n k).length := List.length_pos_of_mem ((mem_listE h1 h2 h3 h4 _).2 ⟨0, by omega, rfl⟩)
  have hr := listE_rises n k
  refine ⟨hlen, hpos, ?_, fun i hi => ?_, ?_⟩
  · rw [hlen]; exact Nat.le_trans (Nat.div_le_self _ _) h2
  · have := List.pairwise_iff_getElem.1 hr i (i + 1) (by omega) hi (by omega)
    rw [List.getElem?_eq_getElem (by omega), List.getElem?_eq_getElem hi]
    exact Nat.le_of_lt this
  · rw [listE_moves h1 h2 h3 h4 hm]
    exact class_list _ _ (fun x hx => by
      obtain ⟨u, _, rfl⟩ := List.mem_map.1 hx
      exact mv_lt)

set_option maxHeartbeats 8000000 in
theorem EvenAll_walk (n k m : Int) (_w0 : (Lit.int .i64 n).wf = true) (_w1 : (Lit.int .i64 k).wf = true) (_w2 : (Lit.int .i64 m).wf = true) (w : World) (hT : Tab w) :
    Calls Tryd.prog 7 #[.int .i64 n, .int .i64 k, .int .i64 m] w fun e w' => e = .returned (.bool true) ∧ Below w.heap.size w w' := by
  by_cases hv : (vldK n k && decide (0 ≤ m ∧ m < n)) = true
  · obtain ⟨hv1, hv2⟩ := Bool.and_eq_true_iff.1 hv
    have hv2 := of_decide_eq_true hv2
    obtain ⟨i0, hi0, hz0, hz1, hz2⟩ := info_parts info_int
    have HP := Lib.hid (Part_any n k)
    rw [hv1] at HP
    obtain ⟨n, k, rfl, rfl, h1, h2, h3, h4⟩ := vldK_nat hv1
    obtain ⟨m, rfl⟩ : ∃ m' : Nat, m = m' := Int.eq_ofNat_of_zero_le hv2.1
    have hm : m < n := by omega
    have hlt := sprN_lt (n := n) (k := k) (m := m) (by omega)
    have hcard := spr_card (m := m) h3 h4
    have hs1 : 1 ≤ sprN n k m := card_pos1 (n := n) (by omega)
    have HS := Lib.hid (fun W => Spread_ok n k m h1 h2 h3 h4 hm W)
    have HL := Lib.hid (fun W hW => List_ok n k h1 h2 h3 h4 W hW)
    have HSc := Lib.hid (fun W => Scale_any n (sprN n k m : Nat) W)
    rw [vldB_of_nat h1 h2 hs1 hlt] at HSc
    have HTn := Lib.hid (fun W => refTones_any n (sprN n k m) h2 hs1 hlt W)
    have HG := Lib.hid (fun W => gcd_any n k (by omega) (by omega) W)
    have HMv := Lib.hid (fun u hu W => moved_any n (sprN n k m) u h1 h2 hlt hu W)
    have HEv := Lib.hid (fun W hW => Even_ok n (sprN n k m) h1 h2 hs1 hlt W hW)
    rw [spr_evB h3 h4] at HEv
    have HSt := Lib.hid (fun W => Strokes_ok n k h1 h2 h3 h4 W)
    have HE := Lib.hid (allE h1 h2 h3 h4 hm)
    have HX := Lib.hid (strokes_ok h1 h2 h3 h4)
    have HMem := Lib.hid (mem_listE h1 h2 h3 h4)
    have HMS := Lib.hid (movesL_succ n (sprN n k m))
    have HLt := Lib.hid hlt
    have HCd := Lib.hid hcard
    have HT0 := Lib.hid hT
    have hg1 : Nat.gcd n k ≤ n := Nat.gcd_le_left _ (by omega)
    have hg0 : 0 < Nat.gcd n k := Nat.gcd_pos_of_pos_left _ (by omega)
    obtain ⟨s, hs⟩ : ∃ s, sprN n k m = s := ⟨_, rfl⟩
    rw [hs] at HS HSc HTn HMv HEv HMS HLt HCd hs1
    have HSs := Lib.hid hs
    obtain ⟨E, hE⟩ : ∃ E, listE n k = E := ⟨_, rfl⟩
    rw [hE] at HL HE HMem
    have hlen := HE.out.len
    have hgd : (n : Int).tdiv ((Nat.gcd n k : Nat) : Int) = ((n / Nat.gcd n k : Nat) : Int) := by rfl
    rw [← hlen] at hgd
    generalize Nat.gcd n k = gc at *
    have hp16 : 2 ^ n ≤ 2 ^ 16 := Nat.pow_le_pow_right (by omega) h2
    have hs16 : s < 65536 := by have := HLt.out; omega
    clear hv hv1 hv2 hlt hcard hT hs hE hlen hp16
    go_enter Tryd.func7, Tryd.ntmps7
    go_wp2_with fail
    refine (HS.out _).mono ?_
    rintro e w1 ⟨rfl, q1, rfl⟩
    have b1 : Below w.heap.size w (w.drewN q1) := below_drewN (Below.refl _ w) q1
    go_wp2_with fail
    refine (HP.out _).mono ?_
    rintro e w2 ⟨rfl, rfl⟩
    go_wp2_with fail
    refine (HL.out _ (HT0.out.same b1)).mono ?_
    rintro e w3 ⟨vl, rfl, hown, hb3⟩
    have b3 := below_next b1 hb3
    clear hb3 b1
    obtain ⟨gl, capl, rfl, hle, hcE⟩ := CellsAt.of_own hown HE.out.pos
    have hEp := HE.out.pos
    have hEt := HE.out.top
    obtain ⟨K, hK⟩ : ∃ K, E.length = K := ⟨_, rfl⟩
    have HCE := Lib.hid hcE
    have HIS := Lib.hid (fun W h => IsSorted_any gl capl E (by omega) hEp HE.out.rises W h)
    rw [hK] at hgd HIS hEp hEt hle HCE ⊢
    have HK := Lib.hid hK
    clear hcE hown hK
    have h3s : w3.heap.size ≤ w3.heap.size := Nat.le_refl _
    go_wp2_with fail
    refine (HSc.out _).mono ?_
    rintro e w4 ⟨rfl, rfl⟩
    go_wp2_with fail
    refine (HTn.out _).mono ?_
    rintro e w4 ⟨vt, rfl, ⟨p, capp, rfl, hp, hcap, hct⟩, hb4⟩
    rw [HCd.out]
    clear hct hcap
    go_wp2_with fail
    refine (HG.out _).mono ?_
    rintro e w5 ⟨rfl, q5, rfl⟩
    have b5 : Below w3.heap.size w3 (w4.drewN q5) := below_drewN hb4 q5
    clear hb4
    go_wp2_with fail
    refine (HIS.out _ (fun i hi => cell_later b5 (HCE.out i hi))).mono ?_
    rintro e w6 ⟨rfl, q6, rfl⟩
    have b6 : Below w3.heap.size w3 ((w4.drewN q5).drewN q6) := below_drewN b5 q6
    clear b5
    generalize (w4.drewN q5).drewN q6 = w6 at *
    go_wp2_with fail
    clear hp
    go_loopw [11, 86] (fun v i wr => ∃ a : Nat, a ≤ n ∧ i = .int .i64 a ∧ Hid (wr.ownsRow w6.heap.size 3 1 v a (ints (movesL n s a))) ∧ Hid (Below w6.heap.size w6 wr)) (fun _ i _ => n - (intOf i).toNat)
    case atStart => exact ⟨0, Nat.zero_le _, rfl, Lib.hid (World.ownsRow_nil w6 w6.heap.size 3 1), Lib.hid (Below.refl _ _)⟩
    case round =>
      obtain ⟨a, ha, rfl, hown, hb⟩ := hrel
      have hsz := hb.out.size
      by_cases hlt : a < n
      · have HM1 := Lib.hid (HMv.out a hlt)
        have HM2 := Lib.hid (HMS.out a)
        generalize mvN n s a = x at HM1 HM2
        go_wp2_with fail
        refine (HM1.out _).mono ?_
        rintro e w7 ⟨rfl, q7, rfl⟩
        have hown2 : Hid ((wr.drewN q7).ownsRow w6.heap.size 3 1 u11 a (ints (movesL n s a))) := hown
        have hb2 : Hid (Below w6.heap.size w6 (wr.drewN q7)) := Lib.hid (below_drewN hb.out q7)
        have hsz2 : w6.heap.size ≤ (wr.drewN q7).heap.size := hsz
        clear hown hb hsz
        generalize wr.drewN q7 = w8 at *
        go_wp2_with (at_builtin; refine wpList_append_own_at _ rfl _ _ 25 rfl w6.heap.size 3 i0 (.int .i64 0) 1 8 Tryd.underlying25 hi0 hz0 hz1 hz2 rfl (by decide) _ _ _ rfl (hown2.out.alloc _) ⟨w8.heap.size, 0, none⟩ 1 1 [.int .i64 x] rfl rfl (cell_one_new _ _ _) (by simp [Value.oneCell']) (by unfold maxLen; omega) (by omega) (by simp; omega) ?_; intro v' w9 hown' hgrow' _ _)
        go_roundw
        case rel =>
          refine ⟨a + 1, by omega, by go_num, Lib.hid ?_, Lib.hid ((hb2.out.alloc hsz2 _).grown hgrow' (by simp; omega) (fun j hj => (hown2.out.lt j hj).1))⟩
          rw [HM2.out]
          have e : ints (movesL n s a ++ [x]) = ints (movesL n s a) ++ [.int .i64 (x : Int)] := by simp [ints]
          rw [e]
          exact hown'
        case measure => simp only [intOf]; omega
      · have han : a = n := by omega
        rw [han] at hown ⊢
        have hML : (movesL n s n).length = n := by simp [movesL]
        obtain ⟨ga, capa, hva, hca, hSort⟩ := sort_any u11 (movesL n s n) (by omega) (by omega) w6 wr hb.out (by rw [hML]; exact hown.out)
        rw [hML] at hva hca
        subst hva
        have HSort := Lib.hid hSort
        have HMv2 := Lib.hid HE.out.moves
        rw [HSs.out] at HMv2
        have hzl : (zsort (movesL n s n)).length = n := by rw [zsort_length, hML]
        have HZL := Lib.hid hzl
        have HCm := Lib.hid (fun W h hb => compact_any (zsort (movesL n s n)) n ga capa w6.heap.size hzl (by omega) hca w6 W h (Nat.le_refl _) hb)
        rw [HMv2.out, List.length_map] at HCm
        have HEq := Lib.hid (fun v W h k => EqInts_any (v := .slice (some ⟨gl, 0, none⟩) K capl) (u := v) (xs := E) (w := W) (by have := HK.out; omega) h k)
        clear hSort hown hb hML hca hzl han hlt ha
        rw [HK.out] at HCm
        go_wp2_with fail
        refine HSort.out.mono ?_
        rintro e w9 ⟨rfl, hz, hb9, _⟩
        have HC9 := Lib.hid (HCm.out w9 hz hb9)
        clear hz hb9
        go_wp2_with fail
        refine HC9.out.mono ?_
        rintro e w10 ⟨rfl, hcell, hb10⟩
        have b10 : Below w3.heap.size w3 w10 := below_next b6 hb10
        have hi1 : IntsAt w10 (.slice (some ⟨gl, 0, none⟩) K capl) E := Or.inr ⟨gl, capl, by rw [HK.out], fun i hi => cell_later b10 (HCE.out i (by rw [← HK.out]; exact hi))⟩
        have hi2 : IntsAt w10 (.slice (some ⟨ga, 0, none⟩) K capa) E := Or.inr ⟨ga, capa, by rw [HK.out], fun i hi => by
          rw [hcell i (by rw [← HK.out]; exact hi), List.getElem?_map, List.getElem?_eq_getElem hi]; rfl⟩
        have HQ := Lib.hid (HEq.out _ w10 hi1 hi2)
        clear hcell hi1 hi2 hb10
        go_wp2_with fail
        refine HQ.out.mono ?_
        rintro e w11 ⟨rfl, q11, rfl⟩
        have b11 : Below w3.heap.size w3 (w10.drewN q11) := below_drewN b10 q11
        clear b10
        generalize w10.drewN q11 = w11 at *
        go_wp2_with fail
        refine (HSt.out _).mono ?_
        rintro e w12 ⟨vs, rfl, ⟨g2, cap2, rfl, hle2, hc2⟩, hb12⟩
        have b12 : Below w3.heap.size w3 w12 := below_next b11 hb12
        clear hb12 b11 HSt
        obtain ⟨x1, x2, m', hm', x3⟩ := HX.out
        clear HX
        generalize strokesN n k = ws at *
        rw [x1] at hle2 hc2 ⊢
        have HC2 := Lib.hid hc2
        have HX1 := Lib.hid x1
        have HX2 := Lib.hid x2
        have HX3 := Lib.hid x3
        have htop : setK ws 0 < 65536 := by
          rw [x3]
          have := sprN_lt (n := n) (k := k) (m := m') (by omega)
          have := Nat.pow_le_pow_right (n := 2) (by omega) h2
          omega
        have HTop := Lib.hid htop
        have hE3 : setK ws 0 ∈ E := (HMem.out _).2 ⟨m', hm', x3.symm⟩
        have HE3 := Lib.hid hE3
        clear hc2 x1 x2 x3 hm' htop hE3
        go_wp2_with fail
        go_loopw [14, 120] (fun t i wr => ∃ a c : Nat, a ≤ n ∧ i = .int .i64 a ∧ t = .int .i64 c ∧ Hid (c ||| setK (ws.drop a) a = setK ws 0) ∧ w12 = wr) (fun _ i _ => n - (intOf i).toNat)
        case atStart => exact ⟨0, 0, Nat.zero_le _, rfl, rfl, Lib.hid (by rw [Nat.zero_or]; rfl), rfl⟩
        case round =>
          obtain ⟨a, c, ha, rfl, rfl, hcs, rfl⟩ := hrel
          have hc16 : c < 65536 := by
            have h := hcs.out
            have h2 : c ≤ c ||| setK (ws.drop a) a := Nat.left_le_or
            rw [h] at h2
            have := HTop.out
            omega
          by_cases hlt : a < n
          · have hdr := setK_drop ws (i := a) (by rw [HX1.out]; exact hlt)
            have ca := HC2.out a hlt
            have hy : ws[a]?.getD 0 ≤ 1 := by
              rw [List.getElem?_eq_getElem (by rw [HX1.out]; exact hlt)]
              exact HX2.out _ (List.getElem_mem _)
            generalize ws[a]?.getD 0 = y at hdr ca hy
            have hy2 : y = 0 ∨ y = 1 := by omega
            rcases hy2 with rfl | rfl
            · have HN := Lib.hid (show c ||| setK (ws.drop (a + 1)) (a + 1) = setK ws 0 from by
                have h := hcs.out
                rwa [hdr, Nat.zero_shiftLeft, Nat.zero_or] at h)
              have E0 : Hid (bits .or .i64 (c : Int) 0 = (c : Int)) := by
                have h := or_nat c 0 (by omega) (by omega)
                rw [Nat.or_zero] at h
                exact Lib.hid h
              clear hdr hy hcs
              go_wp2
              go_roundw
              case rel => exact ⟨a + 1, c, by omega, by go_num, by rw [E0.out], HN, by trivial⟩
              case measure => simp only [intOf]; omega
            · have HN := Lib.hid (show (c ||| 2 ^ a) ||| setK (ws.drop (a + 1)) (a + 1) = setK ws 0 from by
                have h := hcs.out
                rwa [hdr, Nat.one_shiftLeft, ← Nat.or_assoc] at h)
              have hpw := pow_bd (a : Int) (by omega) (by omega)
              simp only [Int.toNat_natCast] at hpw
              have E2 : Hid (bits .or .i64 (c : Int) ((2 : Int) ^ a) = ((c ||| 2 ^ a : Nat) : Int)) := by
                have b3 : 2 ^ a ≤ 2 ^ 16 := Nat.pow_le_pow_right (by omega) (by omega)
                have e : (2 : Int) ^ a = ((2 ^ a : Nat) : Int) := by simp
                rw [e, or_nat _ _ (by omega) (by omega)]
                exact Lib.hid rfl
              clear hdr hy hcs
              go_wp2
              go_roundw
              case rel => exact ⟨a + 1, c ||| 2 ^ a, by omega, by go_num, by rw [E2.out], HN, by trivial⟩
              case measure => simp only [intOf]; omega
          · have hcE2 : c ∈ E := by
              have h := hcs.out
              rw [List.drop_of_length_le (by rw [HX1.out]; omega)] at h
              have h3 : c = setK ws 0 := by
                rw [← h]
                exact (Nat.or_zero c).symm
              rw [h3]
              exact HE3.out
            have b13 := below_next b3 b12
            have HCt := Lib.hid (fun W (hc : ∀ i, i < E.length → W.cell? ⟨gl, i, none⟩ = some (.int .i64 ((E[i]?.getD 0 : Nat) : Int))) => Tryd.slices_Contains_int gl 0 K capl (E.map fun (x : Nat) => (x : Int)) c W (by rw [List.length_map, HK.out]; exact Nat.le_refl _) (by omega) (fun j hj => by
              rw [List.length_map] at hj
              rw [Nat.zero_add, hc j hj, List.getD_eq_getElem?_getD, List.getElem?_map, List.getElem?_eq_getElem hj]; rfl))
            have hct : ((E.map fun (x : Nat) => (x : Int)).take K).contains (c : Int) = true := by
              rw [List.take_of_length_le (by rw [List.length_map, HK.out]; exact Nat.le_refl _), List.contains_iff_mem]
              exact List.mem_map.2 ⟨c, hcE2, rfl⟩
            rw [hct] at HCt
            clear hct hcE2 hcs
            go_wp2_with fail
            refine (HEv.out _ (HT0.out.same b13)).mono ?_
            rintro e w14 ⟨rfl, b14⟩
            have b15 := below_next b12 b14
            have b16 := below_next b13 b14
            have HCt2 := Lib.hid (HCt.out w14 (fun i hi => cell_later b15 (HCE.out i (by rw [← HK.out]; exact hi))))
            clear b12 b13 b14 b15
            go_wp2_with fail
            refine HCt2.out.mono ?_
            rintro e w17 ⟨rfl, rfl⟩
            go_wp2_with fail
            refine (awake_any _).mono ?_
            rintro e w18 ⟨rfl, b18⟩
            have b19 := below_next b16 b18
            clear b16 b18
            go_wp2
            go_ret
            exact ⟨rfl, b19⟩
  · have hv' : (vldK n k && decide (0 ≤ m ∧ m < n)) = false := by simpa using hv
    have H1 := Lib.hid (Spread_bad n k m hv')
    clear hv hv' hT
    go_enter Tryd.func7, Tryd.ntmps7
    go_wp2_with fail
    refine (H1.out _).mono ?_
    rintro e w1 ⟨rfl, rfl⟩
    go_wp2_with fail
    refine (awake_any _).mono ?_
    rintro e w5 ⟨rfl, b5⟩
    go_wp2
    go_ret
    exact ⟨rfl, b5⟩

end Go.Proofs.YtmemnkmmjejlgaaDoor
