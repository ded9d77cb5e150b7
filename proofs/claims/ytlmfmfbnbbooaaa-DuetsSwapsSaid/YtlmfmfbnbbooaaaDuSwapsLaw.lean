/-
  The reference's Swap; the statement on it.
-/
import Derived.Test.YtlmfmfbnbbooaaaDuChecksLaw
import Derived.Test.YtlmfmfbnbbooaaaDuWorthF
import Derived.ArgAppend
namespace Go.Proofs.Ytlmfmfbnbbooaaa
open Go.ChangeShapes Go.WideShapes Go.ChangeAt Go.RowKit
set_option maxRecDepth 100000

theorem far_cases (gs ss : List Int) (hl : gs.length = ss.length) : ((∀ i, i < ss.length → nAt ss i - nAt gs i ≤ 7) ∧ crossD ss (liftP 7 gs) = false) ∨
    ∃ k, k < ss.length ∧ (∀ i, i < k → nAt ss i - nAt gs i ≤ 7) ∧ 7 < nAt ss k - nAt gs k ∧ crossD ss (liftP 7 gs) = true := by
  have e : ∀ i, i < ss.length → nAt (liftP 7 gs) i = nAt gs i + 7 := fun i hi => by
    unfold nAt liftP; rw [List.getElem?_map, List.getElem?_eq_getElem (show i < gs.length by omega)]; rfl
  rcases first_at (fun i => if 7 < nAt ss i - nAt gs i then 1 else 0) ss.length with h | ⟨k, h1, h2, h3⟩
  · have h' : ∀ i, i < ss.length → nAt ss i - nAt gs i ≤ 7 := fun i hi => by
      have := h i hi
      by_cases hh : 7 < nAt ss i - nAt gs i
      · rw [if_pos hh] at this; cases this
      · omega
    refine .inl ⟨h', ?_⟩
    unfold crossD
    rw [decide_eq_false_iff_not]
    rintro ⟨i, hi, hh⟩
    rw [e i hi] at hh
    have := h' i hi
    omega
  · have h4 : 7 < nAt ss k - nAt gs k := by
      by_cases hh : 7 < nAt ss k - nAt gs k
      · exact hh
      · rw [if_neg hh] at h3; exact absurd rfl h3
    refine .inr ⟨k, h1, fun i hi => ?_, h4, ?_⟩
    · have := h2 i hi
      by_cases hh : 7 < nAt ss i - nAt gs i
      · rw [if_pos hh] at this; cases this
      · omega
    · unfold crossD
      rw [decide_eq_true_eq]
      exact ⟨k, h1, by rw [e k h1]; omega⟩

set_option maxHeartbeats 4000000 in
theorem RSwap_any (gs ss : List Int) (g s : Value) (w : World) (hp : pairB gs ss = true) (h : IntsV w g gs) (k : IntsV w s ss) :
    Calls Try.prog 58 #[g, s] w fun e w' => ((swapB gs ss = false ∧ e = .returned (.tuple #[.slice none 0 0, .slice none 0 0, .int .i64 4])) ∨
      (swapB gs ss = true ∧ ∃ v1 v2, e = .returned (.tuple #[v1, v2, .int .i64 0]) ∧ IntsV w' v1 ss ∧ IntsV w' v2 (liftP 7 gs))) ∧ Below w.heap.size w w' := by
  obtain ⟨hg, hs, hlen⟩ := pair_parts hp
  have g1 := dpart_len hg
  have s1 := dpart_len hs
  have HC := Lib.hid (fun W hW hV => RCheck_any gs ss g s W hp hW hV)
  have H := Lib.hid h
  have K := Lib.hid k
  have HNg := Lib.hid (fun i (hi : i < gs.length) => note_at g1.2.2 hi)
  have HNs := Lib.hid (fun i (hi : i < ss.length) => note_at s1.2.2 hi)
  obtain ⟨i0, hi, hz0, hz1, hz2⟩ := info_partsD info_intD
  cases hkb : keptB gs ss
  · have hcv : ∃ a b : Int, checkV gs ss = .tuple #[.int .i64 a, .int .i64 b, .int .i64 0] := ⟨_, _, by unfold checkV; rw [hkb]; rfl⟩
    obtain ⟨a, b, hcv⟩ := hcv
    rw [hcv] at HC
    have HSw := Lib.hid (show swapB gs ss = false by unfold swapB; rw [hkb]; rfl)
    obtain ⟨ao, cap, hv, _⟩ := h
    obtain ⟨bo, cap', hu, _⟩ := k
    subst hv hu
    clear hp hg hs hlen g1 s1 hkb hcv
    generalize gs.length = G at *
    generalize ss.length = L at *
    go_enter Try.func58, Try.ntmps58
    go_wp2_with fail
    refine (HC.out _ H.out K.out).mono ?_
    rintro e w1 ⟨rfl, q, rfl⟩
    go_wp2
    go_ret3
    exact ⟨.inl ⟨HSw.out, rfl⟩, below_drewN (Below.refl _ _) q⟩
  · have hcv : checkV gs ss = .tuple #[.int .i64 0, .int .i64 0, .int .i64 4] := by unfold checkV; rw [hkb, faultP_kept hkb]; rfl
    rw [hcv] at HC
    obtain ⟨b1, o1, c1, hv, hc1⟩ := d_cells h (by omega)
    obtain ⟨b2, o2, c2, hu, hc2⟩ := d_cells k (by omega)
    have HC1 := Lib.hid hc1
    have HC2 := Lib.hid hc2
    have hbl : (ivals ss).length = ss.length := by unfold ivals; rw [List.length_map]
    rcases far_cases gs ss hlen with ⟨hf, hx⟩ | ⟨k0, hk0, hf, hx0, hx⟩
    · have HF := Lib.hid hf
      have hsw : swapB gs ss = notesB (liftP 7 gs) := by unfold swapB; rw [hkb, hx]; simp
      have HBc := Lib.hid (show ∀ W : World, Below w.heap.size w W → ∀ j u, (ivals ss)[j]? = some u → W.cell? ((⟨b2, o2, none⟩ : Addr).add j) = some u from fun W hW j u hj => by
        have hjl : j < ss.length := by
          rw [List.getElem?_eq_some_iff] at hj
          obtain ⟨h1, _⟩ := hj
          rw [hbl] at h1; exact h1
        rw [add_addr]
        have := cell_later hW (hc2 j hjl)
        rw [this]
        unfold ivals at hj
        rw [List.getElem?_map, List.getElem?_eq_getElem hjl] at hj
        unfold nAt
        rw [List.getElem?_eq_getElem hjl]
        exact hj)
      have HIa := Lib.hid (fun (v : Value) (W : World) lo (ho : W.ownsRow lo 3 1 v (0 + ss.length) ([] ++ ivals ss)) => show IntsV W v ss from IntsV.of_own (lo := lo) (by rw [List.nil_append, Nat.zero_add] at ho; exact ho))
      cases hnb : notesB (liftP 7 gs)
      · have HL := Lib.hid (fun W hW => RLift_none gs 7 g W hg (by omega) (by omega) hnb hW)
        have HSw := Lib.hid (show swapB gs ss = false by rw [hsw, hnb])
        have g8 := g1.2.1
        clear hp hg hs g1 s1 hkb hcv hf hx hsw hnb hc1 hc2 h k hbl
        generalize gs.length = G at *
        generalize ss.length = L at *
        subst hlen hv hu
        go_enter Try.func58, Try.ntmps58
        go_wp2_with fail
        refine (HC.out _ H.out K.out).mono ?_
        rintro e w1 ⟨rfl, q, rfl⟩
        go_wp2_with fail
        go_loopw [25] (fun i wr => ∃ j : Nat, j ≤ G ∧ i = .int .i64 (j : Int) ∧ wr = w.drewN q) (fun i _ => G - (valK i).toNat)
        case atStart => exact ⟨0, Nat.zero_le _, rfl, rfl⟩
        case round =>
          obtain ⟨j, hj, rfl, rfl⟩ := hrel
          by_cases hlt : j < G
          · have a1 : (w.drewN q).cell? ⟨b1, o1 + j, none⟩ = _ := HC1.out j hlt
            have a2 : (w.drewN q).cell? ⟨b2, o2 + j, none⟩ = _ := HC2.out j hlt
            have n1 := HNg.out j hlt
            have n2 := HNs.out j hlt
            have n3 := HF.out j hlt
            generalize nAt gs j = x at *
            generalize nAt ss j = y at *
            have q1 : decide (7 < y - x) = false := decide_eq_false (by omega)
            go_wp2
            go_roundw
            case rel => exact ⟨j + 1, by omega, by go_num, trivial⟩
            case measure => simp only [valK]; omega
          · obtain rfl : j = G := by omega
            go_wp2_with fail
            refine (HL.out _ (H.out.drewN q)).mono ?_
            rintro e w2 ⟨rfl, b2'⟩
            go_wp2
            go_ret3
            exact ⟨.inl ⟨HSw.out, rfl⟩, below_nx (below_drewN (Below.refl _ _) q) b2'⟩
      · have HL := Lib.hid (fun W hW => RLift_in gs 7 g W hg (by omega) (by omega) hnb hW)
        have HSw := Lib.hid (show swapB gs ss = true by rw [hsw, hnb])
        have g8 := g1.2.1
        have gp := g1.1
        have HVl := Lib.hid hbl
        have HOne := Lib.hid (show ∀ u ∈ ivals ss, u.oneCell' = true from fun u hu => by
          unfold ivals at hu
          obtain ⟨x, _, rfl⟩ := List.mem_map.1 hu
          rfl)
        clear hp hg hs g1 s1 hkb hcv hf hx hsw hnb hc1 hc2 h k hbl
        generalize gs.length = G at *
        generalize ss.length = L at *
        subst hlen hv hu
        go_enter Try.func58, Try.ntmps58
        go_wp2_with fail
        refine (HC.out _ H.out K.out).mono ?_
        rintro e w1 ⟨rfl, q, rfl⟩
        go_wp2_with fail
        go_loopw [25] (fun i wr => ∃ j : Nat, j ≤ G ∧ i = .int .i64 (j : Int) ∧ wr = w.drewN q) (fun i _ => G - (valK i).toNat)
        case atStart => exact ⟨0, Nat.zero_le _, rfl, rfl⟩
        case round =>
          obtain ⟨j, hj, rfl, rfl⟩ := hrel
          by_cases hlt : j < G
          · have a1 : (w.drewN q).cell? ⟨b1, o1 + j, none⟩ = _ := HC1.out j hlt
            have a2 : (w.drewN q).cell? ⟨b2, o2 + j, none⟩ = _ := HC2.out j hlt
            have n1 := HNg.out j hlt
            have n2 := HNs.out j hlt
            have n3 := HF.out j hlt
            generalize nAt gs j = x at *
            generalize nAt ss j = y at *
            have q1 : decide (7 < y - x) = false := decide_eq_false (by omega)
            go_wp2
            go_roundw
            case rel => exact ⟨j + 1, by omega, by go_num, trivial⟩
            case measure => simp only [valK]; omega
          · obtain rfl : j = G := by omega
            go_wp2_with fail
            refine (HL.out _ (H.out.drewN q)).mono ?_
            rintro e w2 ⟨v2, rfl, hi2, b2'⟩
            have B2 := Lib.hid (below_nx (below_drewN (Below.refl _ _) q) b2')
            have I2 := Lib.hid hi2
            clear hi2 b2'
            go_wp2_with (at_builtin; refine wpList_append_grows _ rfl (.tmp 46) (.tmp 47) 22 rfl 3 i0 (.int .i64 0) 1 8 Try.underlying22 hi hz0 hz1 hz2 rfl (by decide) (some ⟨w2.heap.size, 0, none⟩) 0 0 [] rfl (fun e => by cases e) rfl (fun b _ j u hj => by simp at hj) ⟨b2, o2, none⟩ j c2 (ivals ss) rfl (by rw [HVl.out, Nat.mul_one]) (HBc.out _ (B2.out.alloc B2.out.size _)) HOne.out (by omega) (by unfold maxLen; omega) (by omega) ?_; intro v' w4 hown hgrow; have HOW := Lib.hid hown; have HB4 := Lib.hid (((Below.refl w2.heap.size w2).alloc (Nat.le_refl _) (.cells #[] 3)).grown hgrow (by rw [World.size_alloc]; exact Nat.le_succ _) (fun k e => by cases e)); clear hown hgrow)
            go_ret3
            exact ⟨.inr ⟨HSw.out, _, _, rfl, HIa.out _ _ _ HOW.out, I2.out.later HB4.out⟩, below_nx B2.out HB4.out⟩
    · have HF := Lib.hid hf
      have HSw := Lib.hid (show swapB gs ss = false by unfold swapB; rw [hx]; simp)
      have g8 := g1.2.1
      have n1 := note_at g1.2.2 (show k0 < gs.length by omega)
      have n2 := note_at s1.2.2 hk0
      clear hp hg hs g1 s1 hkb hcv hf hx hc1 hc2 h k hbl
      generalize gs.length = G at *
      generalize ss.length = L at *
      subst hlen hv hu
      go_enter Try.func58, Try.ntmps58
      go_wp2_with fail
      refine (HC.out _ H.out K.out).mono ?_
      rintro e w1 ⟨rfl, q, rfl⟩
      go_wp2_with fail
      go_loopw [25] (fun i wr => ∃ j : Nat, j ≤ k0 ∧ i = .int .i64 (j : Int) ∧ wr = w.drewN q) (fun i _ => G - (valK i).toNat)
      case atStart => exact ⟨0, Nat.zero_le _, rfl, rfl⟩
      case round =>
        obtain ⟨j, hj, rfl, rfl⟩ := hrel
        have hjG : j < G := by omega
        have a1 : (w.drewN q).cell? ⟨b1, o1 + j, none⟩ = _ := HC1.out j hjG
        have a2 : (w.drewN q).cell? ⟨b2, o2 + j, none⟩ = _ := HC2.out j hjG
        by_cases hlt : j < k0
        · have m1 := HNg.out j hjG
          have m2 := HNs.out j hjG
          have m3 := HF.out j hlt
          generalize nAt gs j = x at *
          generalize nAt ss j = y at *
          have q1 : decide (7 < y - x) = false := decide_eq_false (by omega)
          go_wp2
          go_roundw
          case rel => exact ⟨j + 1, by omega, by go_num, trivial⟩
          case measure => simp only [valK]; omega
        · obtain rfl : j = k0 := by omega
          generalize nAt gs j = x at *
          generalize nAt ss j = y at *
          have q1 : decide (7 < y - x) = true := decide_eq_true (by omega)
          go_wp2
          go_ret3
          exact ⟨.inl ⟨HSw.out, rfl⟩, below_drewN (Below.refl _ _) q⟩

set_option maxHeartbeats 4000000 in
theorem DuetsSwaps_walk (gs ss : List Int) (g s : Value) (w : World) (hl : gs.length ≤ maxLen) (h : IntsV w g gs) (hm : ss.length ≤ maxLen) (k : IntsV w s ss) :
    Calls Try.prog 12 #[g, s] w fun e w' => e = .returned (.bool true) ∧ Below w.heap.size w w' := by
  have HAw := Lib.hid (fun W => dawake_any W)
  have HLg := Lib.hid (fun W hW => dlist_any gs g W hl hW)
  have HLs := Lib.hid (fun W hW => dlist_any ss s W hm hW)
  have HPr := Lib.hid (fun W a b => lpair_any gs ss g s W hl hm a b)
  have H := Lib.hid h
  have K := Lib.hid k
  have HNil := Lib.hid (fun a b W ha hb => by have := Equal_any ([] : List Int) [] a b W (by simp) (by simp) ha hb; rwa [show (([] : List Int) == []) = true from rfl] at this)
  cases hp : pairB gs ss
  · have hpt : pairB (gs.take 11) (ss.take 11) = false := by rw [pair_take]; exact hp
    have HB := Lib.hid (fun a b W ha hb => Swap_bad (gs.take 11) (ss.take 11) a b W take11 take11 hpt ha hb)
    rw [hp] at HPr
    obtain ⟨ao, cap, hv, _⟩ := h
    obtain ⟨bo, cap', hu, _⟩ := k
    subst hv hu
    clear hp hpt hl hm
    go_enter Try.func12, Try.ntmps12
    go_wp2_with fail
    refine (HLg.out _ H.out).mono ?_
    rintro e w1 ⟨v1, rfl, i1, b1⟩
    have B1 := Lib.hid b1
    have I1 := Lib.hid i1
    clear i1 b1
    go_wp2_with fail
    refine (HLs.out _ (K.out.later B1.out)).mono ?_
    rintro e w2 ⟨v2, rfl, i2, b2⟩
    have B2 := Lib.hid (below_nx B1.out b2)
    have C2 := Lib.hid (HB.out v1 v2 w2 (I1.out.later b2) i2)
    clear i2 b2
    go_wp2_with fail
    refine C2.out.mono ?_
    rintro e w3 ⟨rfl, rfl⟩
    go_wp2_with fail
    refine (HPr.out _ (H.out.later B2.out) (K.out.later B2.out)).mono ?_
    rintro e w4 ⟨rfl, rfl⟩
    go_wp2_with fail
    refine (HAw.out _).mono ?_
    rintro e w5 ⟨rfl, b5⟩
    go_wp2
    go_ret
    exact ⟨rfl, below_nx B2.out b5⟩
  · obtain ⟨hg, hs, hlen⟩ := pair_parts hp
    have g1 := dpart_len hg
    rw [dtake hg] at HLg
    rw [dtake hs] at HLs
    rw [hp] at HPr
    have HR := Lib.hid (fun W ha hb => RSwap_any gs ss g s W hp ha hb)
    have HE := Lib.hid (fun (zs : List Int) (hz : zs.length ≤ maxLen) a b W ha hb => by have := Equal_any zs zs a b W hz hz ha hb; rwa [show (zs == zs) = true from beq_self_eq_true _] at this)
    have hll : (liftP 7 gs).length ≤ maxLen := by rw [liftP_len]; exact hl
    have HZ1 := Lib.hid hm
    have HZ2 := Lib.hid hll
    cases hsb : swapB gs ss
    · have HS := Lib.hid (fun a b W ha hb => Swap_none gs ss a b W hp hsb ha hb)
      rw [hsb] at HR
      obtain ⟨ao, cap, hv, _⟩ := h
      obtain ⟨bo, cap', hu, _⟩ := k
      subst hv hu
      clear hp hl hm hg hs hlen g1 hsb hll
      go_enter Try.func12, Try.ntmps12
      go_wp2_with fail
      refine (HLg.out _ H.out).mono ?_
      rintro e w1 ⟨v1, rfl, i1, b1⟩
      have B1 := Lib.hid b1
      have I1 := Lib.hid i1
      clear i1 b1
      go_wp2_with fail
      refine (HLs.out _ (K.out.later B1.out)).mono ?_
      rintro e w2 ⟨v2, rfl, i2, b2⟩
      have B2 := Lib.hid (below_nx B1.out b2)
      have C2 := Lib.hid (HS.out v1 v2 w2 (I1.out.later b2) i2)
      clear i2 b2
      go_wp2_with fail
      refine C2.out.mono ?_
      rintro e w3 ⟨rfl, b3⟩
      have B3 := Lib.hid (below_nx B2.out b3)
      clear b3
      go_wp2_with fail
      refine (HPr.out _ (H.out.later B3.out) (K.out.later B3.out)).mono ?_
      rintro e w4 ⟨rfl, rfl⟩
      go_wp2_with fail
      refine (HR.out _ (H.out.later B3.out) (K.out.later B3.out)).mono ?_
      rintro e w5 ⟨h5, b5⟩
      rcases h5 with ⟨_, rfl⟩ | ⟨h6, _⟩
      · have B5 := Lib.hid (below_nx B3.out b5)
        clear b5
        go_wp2_with fail
        refine (HNil.out _ _ _ (IntsV.nilD _) (IntsV.nilD _)).mono ?_
        rintro e w6 ⟨rfl, q1, rfl⟩
        go_wp2_with fail
        refine (HNil.out _ _ _ (IntsV.nilD _) (IntsV.nilD _)).mono ?_
        rintro e w7 ⟨rfl, q2, rfl⟩
        obtain ⟨w8, hw8⟩ : ∃ W, w5.drewN (q1 + q2) = W := ⟨_, rfl⟩
        have B8 := Lib.hid (show Below w.heap.size w w8 by rw [← hw8]; exact below_drewN B5.out _)
        try rw [World.drewN_drewN]
        rw [hw8]
        clear hw8
        go_wp2_with fail
        refine (HAw.out _).mono ?_
        rintro e w9 ⟨rfl, b9⟩
        go_wp2
        go_ret
        exact ⟨rfl, below_nx B8.out b9⟩
      · cases h6
    · have HS := Lib.hid (fun a b W ha hb => Swap_in gs ss a b W hp hsb ha hb)
      rw [hsb] at HR
      obtain ⟨ao, cap, hv, _⟩ := h
      obtain ⟨bo, cap', hu, _⟩ := k
      subst hv hu
      clear hp hl hm hg hs hlen g1 hsb hll
      generalize liftP 7 gs = ls at *
      go_enter Try.func12, Try.ntmps12
      go_wp2_with fail
      refine (HLg.out _ H.out).mono ?_
      rintro e w1 ⟨v1, rfl, i1, b1⟩
      have B1 := Lib.hid b1
      have I1 := Lib.hid i1
      clear i1 b1
      go_wp2_with fail
      refine (HLs.out _ (K.out.later B1.out)).mono ?_
      rintro e w2 ⟨v2, rfl, i2, b2⟩
      have B2 := Lib.hid (below_nx B1.out b2)
      have C2 := Lib.hid (HS.out v1 v2 w2 (I1.out.later b2) i2)
      clear i2 b2
      go_wp2_with fail
      refine C2.out.mono ?_
      rintro e w3 ⟨v3, v4, rfl, i3, i4, b3⟩
      have B3 := Lib.hid (below_nx B2.out b3)
      have I3 := Lib.hid i3
      have I4 := Lib.hid i4
      clear b3 i3 i4
      go_wp2_with fail
      refine (HPr.out _ (H.out.later B3.out) (K.out.later B3.out)).mono ?_
      rintro e w4 ⟨rfl, rfl⟩
      go_wp2_with fail
      refine (HR.out _ (H.out.later B3.out) (K.out.later B3.out)).mono ?_
      rintro e w5 ⟨h5, b5⟩
      rcases h5 with ⟨h6, _⟩ | ⟨_, v5, v6, rfl, i5, i6⟩
      · cases h6
      · have B5 := Lib.hid (below_nx B3.out b5)
        have E1 := Lib.hid (HE.out _ HZ1.out _ _ _ (I3.out.later b5) i5)
        have E2 := Lib.hid (fun q => HE.out _ HZ2.out _ _ (w5.drewN q) ((I4.out.later b5).drewN q) (i6.drewN q))
        clear b5 i5 i6
        go_wp2_with fail
        refine E1.out.mono ?_
        rintro e w6 ⟨rfl, q1, rfl⟩
        go_wp2_with fail
        refine (E2.out q1).mono ?_
        rintro e w7 ⟨rfl, q2, rfl⟩
        obtain ⟨w8, hw8⟩ : ∃ W, w5.drewN (q1 + q2) = W := ⟨_, rfl⟩
        have B8 := Lib.hid (show Below w.heap.size w w8 by rw [← hw8]; exact below_drewN B5.out _)
        try rw [World.drewN_drewN]
        rw [hw8]
        clear hw8
        go_wp2_with fail
        refine (HAw.out _).mono ?_
        rintro e w9 ⟨rfl, b9⟩
        go_wp2
        go_ret
        exact ⟨rfl, below_nx B8.out b9⟩
end Go.Proofs.Ytlmfmfbnbbooaaa
