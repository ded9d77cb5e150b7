/-
  The statement on right parts that are built note by note.
-/
import Derived.Test.YtlmfmfbnbbooaaaDuWorthLaw
import Derived.ArgAppend
namespace Go.Proofs.Ytlmfmfbnbbooaaa
open Go.ChangeShapes Go.WideShapes Go.ChangeAt Go.RowKit
set_option maxRecDepth 100000

/-- The number in a value. -/
def valB : Value → Int
  | .int _ x => x
  | _ => 0
theorem run_full (ao : Option Addr) (L cap : Nat) (h : L ≤ cap) (W : World) : (Instr.slice 22 (.slice ao L cap) none (some (.int .i64 (L : Int))) (some (.int .i64 (L : Int)))).run Try.prog W = .ok (.slice (if L = 0 then ao else ao.map (·.add 0)) L L) W := by
  rw [run_slice_hm (ht := slice_elem) (h0 := by omega) (h2 := by omega) (h3 := by omega), size_elem]
  unfold sliced
  rfl
theorem run_full' {ao : Option Addr} {L cap : Nat} (h : L ≤ cap) (h0 : 0 < L → ∃ b o, ao = some ⟨b, o, none⟩) (W : World) : (Instr.slice 22 (.slice ao L cap) none (some (.int .i64 (L : Int))) (some (.int .i64 (L : Int)))).run Try.prog W = .ok (.slice ao L L) W := by
  rw [run_full ao L cap h W]
  by_cases e : L = 0
  · rw [if_pos e]
  · obtain ⟨b, o, rfl⟩ := h0 (by omega)
    rw [if_neg e]
    rfl
/-- The ways so far. -/
def upN (gs b : List Int) (f j : Nat) : Nat := (((nextL gs b).take j).map fun (x : Nat) => waysN gs f (b ++ [(x : Int)])).sum
theorem upN_all {gs b : List Int} {f j : Nat} (h : (nextL gs b).length ≤ j) : upN gs b f j = waysN gs (f + 1) b := by
  unfold upN; rw [List.take_of_length_le h]; rfl
theorem upN_succ {gs b : List Int} {f j : Nat} (h : j < (nextL gs b).length) : upN gs b f (j + 1) = upN gs b f j + waysN gs f (b ++ [(((nextL gs b)[j]?.getD 0 : Nat) : Int)]) := by
  unfold upN
  rw [List.take_succ_eq_append_getElem h, List.map_append, List.sum_append, List.getElem?_eq_getElem h]
  simp
theorem upN_le {gs b : List Int} {f : Nat} : ∀ j, upN gs b f j ≤ waysN gs (f + 1) b := fun j => by
  have h : ∀ (l : List Nat) (j : Nat), (l.take j).sum ≤ l.sum := fun l => by
    induction l with
    | nil => intro j; simp
    | cons a l ih => intro j; cases j with
      | zero => simp
      | succ j => rw [List.take_succ_cons, List.sum_cons, List.sum_cons]; have := ih j; omega
  unfold upN
  rw [List.map_take]
  exact h _ j
theorem next_ok {gs b : List Int} {j : Nat} (hk : keptB gs b = true) (hb : notesB b = true) (hj : j < (nextL gs b).length) :
    keptB gs (b ++ [(((nextL gs b)[j]?.getD 0 : Nat) : Int)]) = true ∧ notesB (b ++ [(((nextL gs b)[j]?.getD 0 : Nat) : Int)]) = true := by
  have hm : (nextL gs b)[j]?.getD 0 ∈ nextL gs b := by rw [List.getElem?_eq_getElem hj]; exact List.getElem_mem hj
  obtain ⟨h1, h2⟩ := mem_next.1 hm
  generalize (nextL gs b)[j]?.getD 0 = x at *
  refine ⟨(kept_iff _ _).2 fun i hi => ?_, by rw [notes_append, hb]; unfold notesB noteB; simp; omega⟩
  rw [List.length_append] at hi
  simp only [List.length_cons, List.length_nil] at hi
  by_cases e : i = b.length
  · rw [e]; exact h2
  · rw [fault_pre gs b [(x : Int)] [] (by omega), List.append_nil]
    exact (kept_iff _ _).1 hk i (by omega)

set_option maxHeartbeats 4000000 in
theorem ways_any (gs : List Int) (hg : dpartB gs = true) : ∀ (f : Nat) (bs : List Int) (g b : Value) (M : Int) (w : World), bs.length + f = gs.length → notesB bs = true → keptB gs bs = true → (waysN gs f bs : Int) ≤ M → M ≤ 2000 → IntsV w g gs → IntsV w b bs →
    Calls Try.prog 61 #[g, b, .int .i64 M] w fun e w' => e = .returned (.int .i64 (waysN gs f bs : Nat)) ∧ Below w.heap.size w w'
  | 0, bs, g, b, M, w, hl, hn, hk, hm, hM, h, k => by
    have g1 := dpart_len hg
    obtain ⟨ao, cap, rfl, _⟩ := h
    obtain ⟨bo, cap', rfl, _⟩ := k
    have hq : ((bs.length : Int) == (gs.length : Int)) = true := by rw [beq_iff_eq]; omega
    generalize bs.length = L at *
    generalize gs.length = G at *
    go_enter Try.func61, Try.ntmps61
    go_wp2
    go_ret
    exact ⟨rfl, Below.refl _ _⟩
  | f + 1, bs, g, b, M, w, hl, hn, hk, hm, hM, h, k => by
    have g1 := dpart_len hg
    have IH := Lib.hid (fun bs' g' b' M' w' h1 h2 h3 h4 h5 h6 h7 => ways_any gs hg f bs' g' b' M' w' h1 h2 h3 h4 h5 h6 h7)
    have HLg := Lib.hid (fun W hW => dlist_any gs g W (by unfold maxLen; omega) hW)
    have HLb := Lib.hid (fun W hW => dlist_any bs b W (by unfold maxLen; omega) hW)
    rw [dtake hg] at HLg
    rw [show bs.take 11 = bs from List.take_of_length_le (by omega)] at HLb
    have HN := Lib.hid (fun a c W ha hc => Next_ok gs bs a c W hg hn (by omega) hk ha hc)
    have HNl := Lib.hid (show ((nextL gs bs).map fun (x : Nat) => (x : Int)) = nextI gs bs from rfl)
    rw [HNl.out] at HN
    have hnl := next_len gs bs
    have hnll : (nextI gs bs).length = (nextL gs bs).length := by unfold nextI; rw [List.length_map]
    have HAt := Lib.hid (fun j (hj : j < (nextL gs bs).length) => show nAt (nextI gs bs) j = (((nextL gs bs)[j]?.getD 0 : Nat) : Int) by unfold nAt nextI; rw [List.getElem?_map, List.getElem?_eq_getElem hj]; rfl)
    have HUs := Lib.hid (fun j hj => upN_succ (gs := gs) (b := bs) (f := f) (j := j) hj)
    have HUl := Lib.hid (fun j => upN_le (gs := gs) (b := bs) (f := f) j)
    have HUa := Lib.hid (fun j hj => upN_all (gs := gs) (b := bs) (f := f) (j := j) hj)
    have HU0 := Lib.hid (show upN gs bs f 0 = 0 from rfl)
    have HOk := Lib.hid (fun j hj => next_ok (gs := gs) (b := bs) (j := j) hk hn hj)
    have HBl := Lib.hid (show ∀ x : Int, (bs ++ [x]).length + f = gs.length from fun x => by rw [List.length_append]; simp; omega)
    have H := Lib.hid h
    have K := Lib.hid k
    obtain ⟨i0, hi, hz0, hz1, hz2⟩ := info_partsD info_intD
    obtain ⟨ao, cap, hv, _⟩ := h
    obtain ⟨bo, cap', hu, hcap, hbc⟩ := k
    subst hv hu
    have hbs8 : bs.length ≤ 8 := by omega
    have hq : ((bs.length : Int) == (gs.length : Int)) = false := by rw [beq_eq_false_iff_ne]; omega
    have hbl : (ivals bs).length = bs.length := by unfold ivals; rw [List.length_map]
    have hb0 : bs.length = 0 → ivals bs = [] := fun e => by rw [List.length_eq_zero_iff.1 e]; rfl
    have HBc := Lib.hid (show ∀ W : World, Below w.heap.size w W → ∀ ad, bo = some ad → ∀ j u, (ivals bs)[j]? = some u → W.cell? (ad.add j) = some u from fun W hW ad had j u hj => by
      have hjl : j < bs.length := by
        rw [List.getElem?_eq_some_iff] at hj
        obtain ⟨h1, _⟩ := hj
        rw [hbl] at h1; exact h1
      obtain ⟨bb, oo, e, hd⟩ := hbc (by omega)
      rw [had] at e
      cases e
      rw [add_addr]
      have := cell_later hW (hd j hjl)
      rw [this]
      unfold ivals at hj
      rw [List.getElem?_map, List.getElem?_eq_getElem hjl] at hj
      rw [List.getElem?_eq_getElem hjl]
      exact hj)
    have HBn := Lib.hid (show bo = none → bs.length = 0 ∧ bs.length = 0 from fun e => by
      rcases Nat.eq_zero_or_pos bs.length with h0 | h0
      · exact ⟨h0, h0⟩
      · obtain ⟨bb, oo, e2, _⟩ := hbc h0; rw [e] at e2; cases e2)
    have HIa := Lib.hid (fun (x : Int) (v : Value) (W : World) lo (ho : W.ownsRow lo 3 1 v (bs.length + 1) (ivals bs ++ [.int .i64 x])) => show IntsV W v (bs ++ [x]) from IntsV.of_own (lo := lo) (by rw [List.length_append, List.map_append]; exact ho))
    have hfl := fun W => run_full' (L := bs.length) (cap := cap') (ao := bo) hcap (fun h0 => by obtain ⟨bb, oo, e, _⟩ := hbc h0; exact ⟨bb, oo, e⟩) W
    have HLn := Lib.hid hbl
    have HD := Lib.hid (fun (v : Value) (W : World) (hW : IntsV W v (nextI gs bs)) (h0 : 0 < (nextI gs bs).length) => d_cells hW h0)
    rw [hnll] at hnl HD
    have HNv := Lib.hid (fun (v : Value) (W : World) (hW : IntsV W v (nextI gs bs)) => show ∃ a c, v = .slice a (nextL gs bs).length c by obtain ⟨a, c, e, _⟩ := hW; rw [hnll] at e; exact ⟨a, c, e⟩)
    clear hl hn hk hcap hbc hb0 hbl hnll hg g1
    generalize bs.length = L at *
    generalize gs.length = G at *
    generalize waysN gs (f + 1) bs = Wt at *
    generalize upN gs bs f = up at *
    generalize nextL gs bs = nl at *
    generalize nextI gs bs = ni at *
    have hWt : Wt ≤ 2000 := by omega
    go_enter Try.func61, Try.ntmps61
    go_wp2_with fail
    refine (HLg.out _ H.out).mono ?_
    rintro e w1 ⟨v1, rfl, i1, b1⟩
    have B1 := Lib.hid b1
    have I1 := Lib.hid i1
    clear i1 b1
    go_wp2_with fail
    refine (HLb.out _ (K.out.later B1.out)).mono ?_
    rintro e w2 ⟨v2, rfl, i2, b2⟩
    have B2 := Lib.hid (below_nx B1.out b2)
    have J1 := Lib.hid (I1.out.later b2)
    have J2 := Lib.hid i2
    clear i2 b2
    go_wp2_with fail
    refine (HN.out _ _ _ J1.out J2.out).mono ?_
    rintro e w3 ⟨v3, rfl, i3, b3⟩
    have B3 := Lib.hid (below_nx B2.out b3)
    obtain ⟨na, nc, rfl⟩ := HNv.out _ _ i3
    have I3 := Lib.hid i3
    clear i3 b3
    obtain ⟨N, hN⟩ : ∃ N, nl.length = N := ⟨_, rfl⟩
    rw [hN] at hnl HD HAt HUs HUa HOk I3 ⊢
    clear hN
    go_wp2_with fail
    go_loopw [30, 9] (fun i n wr => ∃ j : Nat, j ≤ N ∧ i = .int .i64 (j : Int) ∧ n = .int .i64 ((up j : Nat) : Int) ∧ Below w3.heap.size w3 wr) (fun i _ _ => N - (valB i).toNat)
    case atStart => exact ⟨0, Nat.zero_le _, rfl, by rw [HU0.out]; rfl, Below.refl _ _⟩
    case round =>
      obtain ⟨j, hj, rfl, rfl, hbr⟩ := hrel
      have HBr := Lib.hid hbr
      have HBw := Lib.hid (below_nx B3.out hbr)
      clear hbr
      have hU := HUl.out j
      by_cases hlt : j < N
      · obtain ⟨cb, co, cc, ec, hcc⟩ := HD.out _ _ (I3.out.later HBr.out) (by omega)
        cases ec
        have cj := hcc j hlt
        rw [HAt.out j hlt] at cj
        obtain ⟨o1, o2⟩ := HOk.out j hlt
        have hus := HUs.out j hlt
        have hU1 := HUl.out (j + 1)
        have hl1 := HBl.out (((nl[j]?.getD 0 : Nat) : Int))
        have HO1 := Lib.hid o1
        have HO2 := Lib.hid o2
        have HL1 := Lib.hid hl1
        clear o1 o2 hl1 hcc
        obtain ⟨x, hx⟩ : ∃ x : Int, ((nl[j]?.getD 0 : Nat) : Int) = x := ⟨_, rfl⟩
        rw [hx] at cj HO1 HO2 HL1 hus
        clear hx
        have HIH := Lib.hid (fun g' b' M' W h4 h5 h6 h7 => IH.out (bs ++ [x]) g' b' M' W HL1.out HO2.out HO1.out h4 h5 h6 h7)
        obtain ⟨Y, hY⟩ : ∃ Y, waysN gs f (bs ++ [x]) = Y := ⟨_, rfl⟩
        rw [hY] at HIH hus
        rw [hus] at hU1
        have HUS := Lib.hid hus
        clear hus hY
        obtain ⟨U, hUe⟩ : ∃ U, up j = U := ⟨_, rfl⟩
        rw [hUe] at HUS hU1 hU ⊢
        clear hUe
        have q1 : decide ((Y : Int) < 0) = false := decide_eq_false (by omega)
        have q2 : decide (M < (U : Int) + (Y : Int)) = false := decide_eq_false (by omega)
        go_wp2_with (at_builtin; refine wpList_append_grows _ rfl (.tmp 40) (.tmp 42) 22 rfl 3 i0 (.int .i64 0) 1 8 Try.underlying22 hi hz0 hz1 hz2 rfl (by decide) bo L L (ivals bs) rfl HBn.out (by rw [HLn.out, Nat.mul_one]) (HBc.out _ (HBw.out.alloc HBw.out.size _)) ⟨wr.heap.size, 0, none⟩ 1 1 [.int .i64 x] rfl rfl (cell_one_new _ _ _) (by simp [Value.oneCell']) (by omega) (by unfold maxLen; omega) (by omega) ?_; intro v' w4 hown hgrow; have HOW := Lib.hid hown; have HB4 := Lib.hid (((Below.refl wr.heap.size wr).alloc (Nat.le_refl _) (.cells #[.int .i64 x] 3)).grown hgrow (by rw [World.size_alloc]; exact Nat.le_succ _) (fun k e => by cases e)); clear hown hgrow)
        refine (HIH.out _ _ _ _ (by omega) (by omega) (H.out.later (below_nx HBw.out HB4.out)) (HIa.out _ _ _ _ HOW.out)).mono ?_
        rintro e w5 ⟨rfl, b5⟩
        have HB5 := Lib.hid (below_nx HBr.out (below_nx HB4.out b5))
        clear b5
        go_wp2
        go_roundw
        case rel => exact ⟨j + 1, by omega, by go_num, by rw [HUS.out]; go_num, HB5.out⟩
        case measure => simp only [valB]; omega
      · obtain rfl : j = N := by omega
        have hua := Lib.hid (HUa.out j (Nat.le_refl _))
        go_wp2
        go_ret
        exact ⟨ret_int (by rw [hua.out]), HBw.out⟩

set_option maxHeartbeats 4000000 in
theorem DuetsBuilt_walk (gs : List Int) (g : Value) (w : World) (hl : gs.length ≤ maxLen) (h : IntsV w g gs) :
    Calls Try.prog 14 #[g] w fun e w' => e = .returned (.bool true) ∧ Below w.heap.size w w' := by
  have HAw := Lib.hid (fun W => dawake_any W)
  have HLg := Lib.hid (fun W hW => dlist_any gs g W hl hW)
  have HPr := Lib.hid (fun W a => RPartD_any gs g W hl a)
  have H := Lib.hid h
  cases hg : dpartB gs
  · have HC := Lib.hid (fun a W ha => Count_bad (gs.take 11) a W take11 (by rw [dpart_take]; exact hg) ha)
    obtain ⟨ao, cap, hv, _⟩ := h
    subst hv
    clear hg hl
    go_enter Try.func14, Try.ntmps14
    go_wp2_with fail
    refine (HLg.out _ H.out).mono ?_
    rintro e w1 ⟨v1, rfl, i1, b1⟩
    have B1 := Lib.hid b1
    have I1 := Lib.hid i1
    clear b1 i1
    go_wp2_with fail
    refine (HC.out _ _ I1.out).mono ?_
    rintro e w2 ⟨rfl, rfl⟩
    go_wp2_with fail
    refine (HAw.out _).mono ?_
    rintro e w3 ⟨rfl, b3⟩
    go_wp2
    go_ret
    exact ⟨rfl, below_nx B1.out b3⟩
  · have g1 := dpart_len hg
    rw [hg] at HPr
    rw [dtake hg] at HLg
    have HC := Lib.hid (fun a W ha => Count_ok gs a W hg ha)
    have hwr := ways_right g1.1
    have HWy := Lib.hid (fun W (hr : (rightL gs).length ≤ 2000) ha => ways_any gs hg gs.length [] g (.slice none 0 0) 2000 W (by simp) rfl rfl (by rw [hwr]; omega) (by omega) ha (IntsV.nilD W))
    rw [hwr] at HWy
    obtain ⟨ao, cap, hv, _⟩ := h
    subst hv
    clear hg hl hwr
    generalize (rightL gs).length = R at *
    generalize gs.length = G at *
    have HRi := Lib.hid (show ((R : Int) == (R : Int)) = true from beq_self_eq_true _)
    by_cases hR : R ≤ 2000
    · have q1 : decide (2000 < (R : Int)) = false := decide_eq_false (by omega)
      go_enter Try.func14, Try.ntmps14
      go_wp2_with fail
      refine (HLg.out _ H.out).mono ?_
      rintro e w1 ⟨v1, rfl, i1, b1⟩
      have B1 := Lib.hid b1
      have I1 := Lib.hid i1
      clear b1 i1
      go_wp2_with fail
      refine (HC.out _ _ I1.out).mono ?_
      rintro e w2 ⟨rfl, b2⟩
      have B2 := Lib.hid (below_nx B1.out b2)
      clear b2
      go_wp2_with fail
      refine (HPr.out _ (H.out.later B2.out)).mono ?_
      rintro e w3 ⟨rfl, rfl⟩
      go_wp2_with fail
      refine (HWy.out _ hR (H.out.later B2.out)).mono ?_
      rintro e w4 ⟨rfl, b4⟩
      have B4 := Lib.hid (below_nx B2.out b4)
      clear b4
      go_wp2_with fail
      refine (HAw.out _).mono ?_
      rintro e w5 ⟨rfl, b5⟩
      go_wp2
      go_ret
      exact ⟨rfl, below_nx B4.out b5⟩
    · have q1 : decide (2000 < (R : Int)) = true := decide_eq_true (by omega)
      go_enter Try.func14, Try.ntmps14
      go_wp2_with fail
      refine (HLg.out _ H.out).mono ?_
      rintro e w1 ⟨v1, rfl, i1, b1⟩
      have B1 := Lib.hid b1
      have I1 := Lib.hid i1
      clear b1 i1
      go_wp2_with fail
      refine (HC.out _ _ I1.out).mono ?_
      rintro e w2 ⟨rfl, b2⟩
      have B2 := Lib.hid (below_nx B1.out b2)
      clear b2
      go_wp2_with fail
      refine (HPr.out _ (H.out.later B2.out)).mono ?_
      rintro e w3 ⟨rfl, rfl⟩
      go_wp2_with fail
      refine (HAw.out _).mono ?_
      rintro e w5 ⟨rfl, b5⟩
      go_wp2
      go_ret
      exact ⟨rfl, below_nx B2.out b5⟩
end Go.Proofs.Ytlmfmfbnbbooaaa
