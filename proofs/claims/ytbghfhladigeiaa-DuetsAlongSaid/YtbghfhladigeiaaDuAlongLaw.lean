/-
  The statement on beginnings.
-/
import Derived.Test.YtbghfhladigeiaaDuSorted
import Derived.Deep.RegionHeld3
namespace Go.Proofs.Ytbghfhladigeiaa
open Go.ChangeShapes Go.WideShapes Go.ChangeAt Go.RowKit
set_option maxRecDepth 100000

set_option maxHeartbeats 4000000 in
theorem DuetsAlong_walk (gs ss : List Int) (g s : Value) (w : World) (hl : gs.length ≤ maxLen) (h : IntsV w g gs) (hm : ss.length ≤ maxLen) (k : IntsV w s ss) :
    Calls Try.prog 11 #[g, s] w fun e w' => e = .returned (.bool true) ∧ Below w.heap.size w w' := by
  have HAw := Lib.hid (fun W => dawake_any W)
  have HLg := Lib.hid (fun W hW => dlist_any gs g W hl hW)
  have HLs := Lib.hid (fun W hW => dlist_any ss s W hm hW)
  have HPr := Lib.hid (fun W a b => lpair_any gs ss g s W hl hm a b)
  have H := Lib.hid h
  have K := Lib.hid k
  cases hp : pairB gs ss
  · have hpt : pairB (gs.take 11) (ss.take 11) = false := by rw [pair_take]; exact hp
    have HB := Lib.hid (fun a b W ha hb => Check_bad (gs.take 11) (ss.take 11) a b W take11 take11 hpt ha hb)
    rw [hp] at HPr
    obtain ⟨ao, cap, hv, _⟩ := h
    obtain ⟨bo, cap', hu, _⟩ := k
    subst hv hu
    clear hp hpt hl hm
    go_enter Try.func11, Try.ntmps11
    go_wp2_with fail
    refine (HLg.out _ H.out).mono ?_
    rintro e w1 ⟨v1, rfl, i1, b1⟩
    have B1 := Lib.hid b1
    have I1 := Lib.hid i1
    clear i1 b1
    go_wp2_with fail
    refine (HLs.out _ (K.out.later B1.out)).mono ?_
    rintro e w2 ⟨v2, rfl, i2, b2⟩
    have B2 := Lib.hid (below_nx B1.out b2)
    have C2 := Lib.hid (HB.out v1 v2 w2 (I1.out.later b2) i2)
    clear i2 b2
    go_wp2_with fail
    refine C2.out.mono ?_
    rintro e w3 ⟨rfl, rfl⟩
    go_wp2_with fail
    refine (HPr.out _ (H.out.later B2.out) (K.out.later B2.out)).mono ?_
    rintro e w4 ⟨rfl, rfl⟩
    go_wp2_with fail
    refine (HAw.out _).mono ?_
    rintro e w5 ⟨rfl, b5⟩
    go_wp2
    go_ret
    exact ⟨rfl, below_nx B2.out b5⟩
  · obtain ⟨hg, hs, hlen⟩ := pair_parts hp
    have g1 := dpart_len hg
    have s1 := dpart_len hs
    rw [dtake hg] at HLg
    rw [dtake hs] at HLs
    rw [hp] at HPr
    have HC := Lib.hid (fun a b W ha hb => Check_ok gs ss a b W hp ha hb)
    obtain ⟨i0, hi0, hz, hnz, hcv⟩ := check_at gs ss
    obtain ⟨b1', o1, c1', hv, hc1⟩ := d_cells h (by omega)
    obtain ⟨b2', o2, c2', hu, hc2⟩ := d_cells k (by omega)
    have hcap : ss.length ≤ c2' := by
      obtain ⟨a, c, e, h1, _⟩ := k
      rw [hu] at e; cases e
      exact h1
    have HC2 := Lib.hid hc2
    -- what a round needs
    have HRnd := Lib.hid (fun (j : Nat) (hj : j < ss.length) => show ∃ ls : List Int, ls.length ≤ 21 ∧ (∀ i, i + 1 < ls.length → nAt ls i ≤ nAt ls (i + 1)) ∧ ls.contains (nAt ss j) = decide (j < i0) ∧ (i0 < j → ls.length = 0) ∧
        ∀ va vb W, IntsV W va gs → IntsV W vb (ss.take j) → Below w.heap.size w W → Calls Try.prog 31 #[va, vb] W fun e w' => ∃ a c, e = .returned (.tuple #[.slice a ls.length c, .int .i64 0]) ∧ IntsV w' (.slice a ls.length c) ls ∧ Below w.heap.size w w' from by
      have hbn : notesB (ss.take j) = true := by
        have h9 := s1.2.2
        unfold notesB at h9 ⊢
        exact List.all_eq_true.2 fun x hx => List.all_eq_true.1 h9 x (List.mem_of_mem_take hx)
      have hjl : (ss.take j).length < gs.length := by rw [List.length_take]; omega
      by_cases hji : j ≤ i0
      · refine ⟨nextI gs (ss.take j), next_len _ _, next_sorted _ _, ?_, fun h => by omega, fun va vb W ha hb hB => ?_⟩
        · rw [next_has hj s1.2.2, decide_eq_decide]
          constructor
          · intro h0
            by_cases e : j = i0
            · subst e; exact absurd h0 (hnz hj)
            · omega
          · intro h0
            exact hz j h0
        · refine (Next_ok gs (ss.take j) va vb W hg hbn hjl ((kept_take (by omega)).2 fun i hi => hz i (by omega)) ha hb).mono ?_
          rintro e w' ⟨v', rfl, hi, hb'⟩
          have hi' : IntsV w' v' (nextI gs (ss.take j)) := hi
          obtain ⟨a, c, rfl, _⟩ := id hi'
          exact ⟨a, c, rfl, hi', below_nx hB hb'⟩
      · have hnk : keptB gs (ss.take j) = false := by
          cases e : keptB gs (ss.take j)
          · rfl
          · exact absurd ((kept_take (by omega)).1 e i0 (by omega)) (hnz (by omega))
        refine ⟨[], by simp, fun i hi => by simp at hi, ?_, fun _ => rfl, fun va vb W ha hb hB => ?_⟩
        · rw [decide_eq_false (by omega)]; rfl
        · refine (Next_none gs (ss.take j) va vb W hg hbn hjl hnk ha hb).mono ?_
          rintro e w' ⟨rfl, hb'⟩
          exact ⟨none, 0, rfl, IntsV.nilD w', below_nx hB hb'⟩)
    have HUp := Lib.hid (fun W (hW : IntsV W s ss) j (hj : j ≤ ss.length) => IntsV.upto (hu ▸ hW) j hj)
    have HLt := Lib.hid (fun j (hj : j ≤ ss.length) v W hW => dlist_any (ss.take j) v W (by rw [List.length_take]; omega) hW)
    have HTk := Lib.hid (fun j => show (ss.take j).take 11 = ss.take j from List.take_of_length_le (by rw [List.length_take]; omega))
    obtain ⟨L, hL⟩ : ∃ L, ss.length = L := ⟨_, rfl⟩
    have hL2 : gs.length = L := by omega
    have l1 : 1 ≤ L := by omega
    have l8 : L ≤ 8 := by omega
    rw [hL] at hu hc2 HC2 hcv hi0 HRnd HUp HLt hcap
    rw [hL2] at hv hc1
    subst hv hu
    clear hl hm hp hg hs hlen g1 s1 h k hc1 hc2 hz hnz hL hL2
    rcases hcv with ⟨hi, hcv⟩ | ⟨hi, r, hcv⟩
    · rw [hcv] at HC
      have hi := hi.symm
      subst hi
      clear hcv
      have hq1 : decide ((L : Int) < 0) = false := decide_eq_false (by omega)
      have hq2 : decide ((L : Int) < (L : Int)) = false := decide_eq_false (by omega)
      go_enter Try.func11, Try.ntmps11
      go_wp2_with fail
      refine (HLg.out _ H.out).mono ?_
      rintro e w1 ⟨v1, rfl, i1, b1⟩
      have B1 := Lib.hid b1
      have I1 := Lib.hid i1
      clear i1 b1
      go_wp2_with fail
      refine (HLs.out _ (K.out.later B1.out)).mono ?_
      rintro e w2 ⟨v2, rfl, i2, b2⟩
      have B2 := Lib.hid (below_nx B1.out b2)
      have C2 := Lib.hid (HC.out v1 v2 w2 (I1.out.later b2) i2)
      clear i2 b2
      go_wp2_with fail
      refine C2.out.mono ?_
      rintro e w3 ⟨rfl, b3⟩
      have B3 := Lib.hid (below_nx B2.out b3)
      clear b3
      go_wp2_with fail
      refine (HPr.out _ (H.out.later B3.out) (K.out.later B3.out)).mono ?_
      rintro e w4 ⟨rfl, rfl⟩
      go_wp2_with fail
      go_loopw [52] (fun t wr => ∃ j : Nat, j ≤ L ∧ t = .int .i64 j ∧ Below w.heap.size w wr) (fun t _ => L - (valI t).toNat)
      case atStart => exact ⟨0, Nat.zero_le _, rfl, B3.out⟩
      case round =>
        obtain ⟨j, hj, rfl, hbr⟩ := hrel
        by_cases hlt : j < L
        · obtain ⟨ls, hlsl, hsrt, hcont, hM, hN⟩ := HRnd.out j hlt
          have HIs := Lib.hid (fun v W hW => IsSortedI_any ls v W (by omega) hsrt hW)
          have HCo := Lib.hid (fun v W hW => Contains_any ls v (nAt ss j) W (by unfold maxLen; omega) hW)
          have HN := Lib.hid hN
          have cj := cell_later hbr (HC2.out j hlt)
          have hup := fun W => run_upto (some ⟨b2', o2, none⟩) L c2' (j : Int) (by omega) (by omega) W
          simp only [Int.toNat_natCast] at hup
          have HU := Lib.hid (fun W (hW : Below w.heap.size w W) => HLt.out j (by omega) _ W (HUp.out W (K.out.later hW) j (by omega)))
          rw [HTk.out] at HU
          obtain ⟨vk, hvk⟩ : ∃ vk, sliced (some ⟨b2', o2, none⟩) 0 j c2' 1 = vk := ⟨_, rfl⟩
          rw [hvk] at HU
          simp only [hvk] at hup
          have CA := Lib.hid (fun W (hW : Below w.heap.size w W) => (HLg.out W (H.out.later hW)).mono (fun e w' h => show ∃ v', e = .returned v' ∧ IntsV w' v' gs ∧ Below W.heap.size W w' ∧ Below w.heap.size w w' from by
            obtain ⟨v', e1, e2, e3⟩ := h
            exact ⟨v', e1, e2, e3, below_nx hW e3⟩))
          have CB := Lib.hid (fun W (hW : Below w.heap.size w W) => (HU.out W hW).mono (fun e w' h => show ∃ v', e = .returned v' ∧ IntsV w' v' (ss.take j) ∧ Below W.heap.size W w' ∧ Below w.heap.size w w' from by
            obtain ⟨v', e1, e2, e3⟩ := h
            exact ⟨v', e1, e2, e3, below_nx hW e3⟩))
          have HBd := Lib.hid hbr.drew
          rw [hcont] at HCo
          clear hN hbr hsrt hcont hvk
          generalize ls.length = M at *
          generalize nAt ss j = x at *
          have h1 := hlt
          have hd1 : decide ((j : Int) < (L : Int)) = true := decide_eq_true (by omega)
          have hd2 : decide ((L : Int) < (j : Int)) = false := decide_eq_false (by omega)
          rw [decide_eq_true h1] at HCo
          clear hM
          go_wp2_with fail
          go_region_held3 (fun w' => Below w.heap.size w w') (first | exact HBd.out | assumption) ((first | (go_at_call 17; refine (CA.out _ (by assumption)).mono ?_; rintro e wa ⟨va, rfl, oa, ba, ta⟩) | (go_at_call 17; refine (CB.out _ (by assumption)).mono ?_; rintro e wb ⟨vb, rfl, ob, bb, tb⟩) | (go_at_call 31; refine (HN.out _ _ _ (oa.later bb) ob tb).mono ?_; rintro e wn ⟨na, nc, rfl, inx, tn⟩) | (go_at_call 31; refine (HN.out _ _ _ oa (ob.later ba) ta).mono ?_; rintro e wn ⟨na, nc, rfl, inx, tn⟩)))
          all_goals
            have HInx := Lib.hid inx
            have HTn := Lib.hid tn
            clear inx tn oa ob ba bb ta tb
            try dsimp only [Exit.then]
            go_wp2_with fail
            refine (HIs.out _ _ HInx.out).mono ?_
            rintro e w8 ⟨rfl, q, rfl⟩
            have HTn8 := Lib.hid (below_drewN HTn.out q)
            have C8 := Lib.hid (HCo.out _ _ (HInx.out.drewN q))
            generalize wn.drewN q = w8 at *
            go_wp2_with fail
            refine C8.out.mono ?_
            rintro e w9 ⟨rfl, rfl⟩
            go_wp2
            go_roundw
            case rel => exact ⟨j + 1, by omega, by go_num, HTn8.out⟩
            case measure => simp only [valI]; omega
        · have HBr := Lib.hid hbr
          clear hbr
          go_wp2_with fail
          refine (HAw.out _).mono ?_
          rintro e w5 ⟨rfl, b5⟩
          go_wp2
          go_ret
          exact ⟨rfl, below_nx HBr.out b5⟩
    · rw [hcv] at HC
      clear hcv
      have hq1 : decide ((i0 : Int) < 0) = false := decide_eq_false (by omega)
      have hq2 : decide ((L : Int) < (i0 : Int)) = false := decide_eq_false (by omega)
      have hq3 : decide (L < i0) = false := decide_eq_false (by omega)
      go_enter Try.func11, Try.ntmps11
      go_wp2_with fail
      refine (HLg.out _ H.out).mono ?_
      rintro e w1 ⟨v1, rfl, i1, b1⟩
      have B1 := Lib.hid b1
      have I1 := Lib.hid i1
      clear i1 b1
      go_wp2_with fail
      refine (HLs.out _ (K.out.later B1.out)).mono ?_
      rintro e w2 ⟨v2, rfl, i2, b2⟩
      have B2 := Lib.hid (below_nx B1.out b2)
      have C2 := Lib.hid (HC.out v1 v2 w2 (I1.out.later b2) i2)
      clear i2 b2
      go_wp2_with fail
      refine C2.out.mono ?_
      rintro e w3 ⟨rfl, b3⟩
      have B3 := Lib.hid (below_nx B2.out b3)
      clear b3
      go_wp2_with fail
      refine (HPr.out _ (H.out.later B3.out) (K.out.later B3.out)).mono ?_
      rintro e w4 ⟨rfl, rfl⟩
      go_wp2_with fail
      go_loopw [52] (fun t wr => ∃ j : Nat, j ≤ L ∧ t = .int .i64 j ∧ Below w.heap.size w wr) (fun t _ => L - (valI t).toNat)
      case atStart => exact ⟨0, Nat.zero_le _, rfl, B3.out⟩
      case round =>
        obtain ⟨j, hj, rfl, hbr⟩ := hrel
        by_cases hlt : j < L
        · obtain ⟨ls, hlsl, hsrt, hcont, hM, hN⟩ := HRnd.out j hlt
          have HIs := Lib.hid (fun v W hW => IsSortedI_any ls v W (by omega) hsrt hW)
          have HCo := Lib.hid (fun v W hW => Contains_any ls v (nAt ss j) W (by unfold maxLen; omega) hW)
          have HN := Lib.hid hN
          have cj := cell_later hbr (HC2.out j hlt)
          have hup := fun W => run_upto (some ⟨b2', o2, none⟩) L c2' (j : Int) (by omega) (by omega) W
          simp only [Int.toNat_natCast] at hup
          have HU := Lib.hid (fun W (hW : Below w.heap.size w W) => HLt.out j (by omega) _ W (HUp.out W (K.out.later hW) j (by omega)))
          rw [HTk.out] at HU
          obtain ⟨vk, hvk⟩ : ∃ vk, sliced (some ⟨b2', o2, none⟩) 0 j c2' 1 = vk := ⟨_, rfl⟩
          rw [hvk] at HU
          simp only [hvk] at hup
          have CA := Lib.hid (fun W (hW : Below w.heap.size w W) => (HLg.out W (H.out.later hW)).mono (fun e w' h => show ∃ v', e = .returned v' ∧ IntsV w' v' gs ∧ Below W.heap.size W w' ∧ Below w.heap.size w w' from by
            obtain ⟨v', e1, e2, e3⟩ := h
            exact ⟨v', e1, e2, e3, below_nx hW e3⟩))
          have CB := Lib.hid (fun W (hW : Below w.heap.size w W) => (HU.out W hW).mono (fun e w' h => show ∃ v', e = .returned v' ∧ IntsV w' v' (ss.take j) ∧ Below W.heap.size W w' ∧ Below w.heap.size w w' from by
            obtain ⟨v', e1, e2, e3⟩ := h
            exact ⟨v', e1, e2, e3, below_nx hW e3⟩))
          have HBd := Lib.hid hbr.drew
          rw [hcont] at HCo
          clear hN hbr hsrt hcont hvk
          generalize ls.length = M at *
          generalize nAt ss j = x at *
          rcases (show j < i0 ∨ j = i0 ∨ i0 < j by omega) with h1 | h1 | h1
          · have hd1 : decide ((j : Int) < (i0 : Int)) = true := decide_eq_true (by omega)
            have hd2 : decide ((i0 : Int) < (j : Int)) = false := decide_eq_false (by omega)
            rw [decide_eq_true h1] at HCo
            clear hM
            go_wp2_with fail
            go_region_held3 (fun w' => Below w.heap.size w w') (first | exact HBd.out | assumption) ((first | (go_at_call 17; refine (CA.out _ (by assumption)).mono ?_; rintro e wa ⟨va, rfl, oa, ba, ta⟩) | (go_at_call 17; refine (CB.out _ (by assumption)).mono ?_; rintro e wb ⟨vb, rfl, ob, bb, tb⟩) | (go_at_call 31; refine (HN.out _ _ _ (oa.later bb) ob tb).mono ?_; rintro e wn ⟨na, nc, rfl, inx, tn⟩) | (go_at_call 31; refine (HN.out _ _ _ oa (ob.later ba) ta).mono ?_; rintro e wn ⟨na, nc, rfl, inx, tn⟩)))
            all_goals
              have HInx := Lib.hid inx
              have HTn := Lib.hid tn
              clear inx tn oa ob ba bb ta tb
              try dsimp only [Exit.then]
              go_wp2_with fail
              refine (HIs.out _ _ HInx.out).mono ?_
              rintro e w8 ⟨rfl, q, rfl⟩
              have HTn8 := Lib.hid (below_drewN HTn.out q)
              have C8 := Lib.hid (HCo.out _ _ (HInx.out.drewN q))
              generalize wn.drewN q = w8 at *
              go_wp2_with fail
              refine C8.out.mono ?_
              rintro e w9 ⟨rfl, rfl⟩
              go_wp2
              go_roundw
              case rel => exact ⟨j + 1, by omega, by go_num, HTn8.out⟩
              case measure => simp only [valI]; omega
          · have hd1 : decide ((j : Int) < (i0 : Int)) = false := decide_eq_false (by omega)
            have hd2 : decide ((i0 : Int) < (j : Int)) = false := decide_eq_false (by omega)
            rw [decide_eq_false (show ¬ j < i0 by omega)] at HCo
            clear hM
            have hnl : ¬ j < i0 := by omega
            have hng : ¬ i0 < j := by omega
            have hd3 : decide (j < i0) = false := decide_eq_false hnl
            have hd4 : decide (i0 < j) = false := decide_eq_false hng
            clear h1
            go_wp2_with fail
            go_region_held3 (fun w' => Below w.heap.size w w') (first | exact HBd.out | assumption) ((first | (go_at_call 17; refine (CA.out _ (by assumption)).mono ?_; rintro e wa ⟨va, rfl, oa, ba, ta⟩) | (go_at_call 17; refine (CB.out _ (by assumption)).mono ?_; rintro e wb ⟨vb, rfl, ob, bb, tb⟩) | (go_at_call 31; refine (HN.out _ _ _ (oa.later bb) ob tb).mono ?_; rintro e wn ⟨na, nc, rfl, inx, tn⟩) | (go_at_call 31; refine (HN.out _ _ _ oa (ob.later ba) ta).mono ?_; rintro e wn ⟨na, nc, rfl, inx, tn⟩)))
            all_goals
              have HInx := Lib.hid inx
              have HTn := Lib.hid tn
              clear inx tn oa ob ba bb ta tb
              try dsimp only [Exit.then]
              go_wp2_with fail
              refine (HIs.out _ _ HInx.out).mono ?_
              rintro e w8 ⟨rfl, q, rfl⟩
              have HTn8 := Lib.hid (below_drewN HTn.out q)
              have C8 := Lib.hid (HCo.out _ _ (HInx.out.drewN q))
              generalize wn.drewN q = w8 at *
              go_wp2_with fail
              refine C8.out.mono ?_
              rintro e w9 ⟨rfl, rfl⟩
              go_wp2
              go_roundw
              case rel => exact ⟨j + 1, by omega, by go_num, HTn8.out⟩
              case measure => simp only [valI]; omega
          · have hd1 : decide ((j : Int) < (i0 : Int)) = false := decide_eq_false (by omega)
            have hd2 : decide ((i0 : Int) < (j : Int)) = true := decide_eq_true (by omega)
            rw [decide_eq_false (show ¬ j < i0 by omega)] at HCo
            have hd3 : decide (j < i0) = false := decide_eq_false (by omega)
            have hd4 : decide (i0 < j) = true := decide_eq_true (by omega)
            have hM := hM h1
            subst hM
            go_wp2_with fail
            go_region_held3 (fun w' => Below w.heap.size w w') (first | exact HBd.out | assumption) ((first | (go_at_call 17; refine (CA.out _ (by assumption)).mono ?_; rintro e wa ⟨va, rfl, oa, ba, ta⟩) | (go_at_call 17; refine (CB.out _ (by assumption)).mono ?_; rintro e wb ⟨vb, rfl, ob, bb, tb⟩) | (go_at_call 31; refine (HN.out _ _ _ (oa.later bb) ob tb).mono ?_; rintro e wn ⟨na, nc, rfl, inx, tn⟩) | (go_at_call 31; refine (HN.out _ _ _ oa (ob.later ba) ta).mono ?_; rintro e wn ⟨na, nc, rfl, inx, tn⟩)))
            all_goals
              have HInx := Lib.hid inx
              have HTn := Lib.hid tn
              clear inx tn oa ob ba bb ta tb
              try dsimp only [Exit.then]
              go_wp2_with fail
              refine (HIs.out _ _ HInx.out).mono ?_
              rintro e w8 ⟨rfl, q, rfl⟩
              have HTn8 := Lib.hid (below_drewN HTn.out q)
              have C8 := Lib.hid (HCo.out _ _ (HInx.out.drewN q))
              generalize wn.drewN q = w8 at *
              go_wp2_with fail
              refine C8.out.mono ?_
              rintro e w9 ⟨rfl, rfl⟩
              go_wp2
              go_roundw
              case rel => exact ⟨j + 1, by omega, by go_num, HTn8.out⟩
              case measure => simp only [valI]; omega
        · have HBr := Lib.hid hbr
          clear hbr
          go_wp2_with fail
          refine (HAw.out _).mono ?_
          rintro e w5 ⟨rfl, b5⟩
          go_wp2
          go_ret
          exact ⟨rfl, below_nx HBr.out b5⟩
end Go.Proofs.Ytbghfhladigeiaa
