/-
  The statement on right parts that are built note by note.
-/
import Derived.Test.YtlmfmfbnbbooaaaDuWorthLaw
import Derived.ArgAppend
import Derived.Test.YtlmfmfbnbbooaaaDuBrkA
import Derived.Test.YtlmfmfbnbbooaaaDuWorth
import Derived.Test.YtlmfmfbnbbooaaaDuChecksLaw
namespace Go.Proofs.Ytlmfmfbnbbooaaa

section
open Go.ChangeShapes Go.WideShapes Go.ChangeAt Go.RowKit
set_option maxRecDepth 100000

/-- The number in a value. -/
def valB : Value → Int
  | .int _ x => x
  | _ => 0
theorem run_full (ao : Option Addr) (L cap : Nat) (h : L ≤ cap) (W : World) : (Instr.slice 22 (.slice ao L cap) none (some (.int .i64 (L : Int))) (some (.int .i64 (L : Int)))).run Try.prog W = .ok (.slice (if L = 0 then ao else ao.map (·.add 0)) L L) W := by
  rw [run_slice_hm (ht := slice_elem) (h0 := by omega) (h2 := by omega) (h3 := by omega), size_elem]
  unfold sliced
  rfl
theorem run_full' {ao : Option Addr} {L cap : Nat} (h : L ≤ cap) (h0 : 0 < L → ∃ b o, ao = some ⟨b, o, none⟩) (W : World) : (Instr.slice 22 (.slice ao L cap) none (some (.int .i64 (L : Int))) (some (.int .i64 (L : Int)))).run Try.prog W = .ok (.slice ao L L) W := by
  rw [run_full ao L cap h W]
  by_cases e : L = 0
  · rw [if_pos e]
  · obtain ⟨b, o, rfl⟩ := h0 (by omega)
    rw [if_neg e]
    rfl
/-- The ways so far. -/
def upN (gs b : List Int) (f j : Nat) : Nat := (((nextL gs b).take j).map fun (x : Nat) => waysN gs f (b ++ [(x : Int)])).sum
theorem upN_all {gs b : List Int} {f j : Nat} (h : (nextL gs b).length ≤ j) : upN gs b f j = waysN gs (f + 1) b := by
  unfold upN; rw [List.take_of_length_le h]; rfl
theorem upN_succ {gs b : List Int} {f j : Nat} (h : j < (nextL gs b).length) : upN gs b f (j + 1) = upN gs b f j + waysN gs f (b ++ [(((nextL gs b)[j]?.getD 0 : Nat) : Int)]) := by
  unfold upN
  rw [List.take_succ_eq_append_getElem h, List.map_append, List.sum_append, List.getElem?_eq_getElem h]
  simp
theorem upN_le {gs b : List Int} {f : Nat} : ∀ j, upN gs b f j ≤ waysN gs (f + 1) b := fun j => by
  have h : ∀ (l : List Nat) (j : Nat), (l.take j).sum ≤ l.sum := fun l => by
    induction l with
    | nil => intro j; simp
    | cons a l ih => intro j; cases j with
      | zero => simp
      | succ j => rw [List.take_succ_cons, List.sum_cons, List.sum_cons]; have := ih j; omega
  unfold upN
  rw [List.map_take]
  exact h _ j
theorem next_ok {gs b : List Int} {j : Nat} (hk : keptB gs b = true) (hb : notesB b = true) (hj : j < (nextL gs b).length) :
    keptB gs (b ++ [(((nextL gs b)[j]?.getD 0 : Nat) : Int)]) = true ∧ notesB (b ++ [(((nextL gs b)[j]?.getD 0 : Nat) : Int)]) = true := by
  have hm : (nextL gs b)[j]?.getD 0 ∈ nextL gs b := by rw [List.getElem?_eq_getElem hj]; exact List.getElem_mem hj
  obtain ⟨h1, h2⟩ := mem_next.1 hm
  generalize (nextL gs b)[j]?.getD 0 = x at *
  refine ⟨(kept_iff _ _).2 fun i hi => ?_, by rw [notes_append, hb]; unfold notesB noteB; simp; omega⟩
  rw [List.length_append] at hi
  simp only [List.length_cons, List.length_nil] at hi
  by_cases e : i = b.length
  · rw [e]; exact h2
  · rw [fault_pre gs b [(x : Int)] [] (by omega), List.append_nil]
    exact (kept_iff _ _).1 hk i (by omega)

set_option maxHeartbeats 4000000 in
theorem ways_any (gs : List Int) (hg : dpartB gs = true) : ∀ (f : Nat) (bs : List Int) (g b : Value) (M : Int) (w : World), bs.length + f = gs.length → notesB bs = true → keptB gs bs = true → (waysN gs f bs : Int) ≤ M → M ≤ 2000 → IntsV w g gs → IntsV w b bs →
    Calls Try.prog 61 #[g, b, .int .i64 M] w fun e w' => e = .returned (.int .i64 (waysN gs f bs : Nat)) ∧ Below w.heap.size w w'
  | 0, bs, g, b, M, w, hl, hn, hk, hm, hM, h, k => by
    have g1 := dpart_len hg
    obtain ⟨ao, cap, rfl, _⟩ := h
    obtain ⟨bo, cap', rfl, _⟩ := k
    have hq : ((bs.length : Int) == (gs.length : Int)) = true := by rw [beq_iff_eq]; omega
    generalize bs.length = L at *
    generalize gs.length = G at *
    go_enter Try.func61, Try.ntmps61
    go_wp2
    go_ret
    exact ⟨rfl, Below.refl _ _⟩
  | f + 1, bs, g, b, M, w, hl, hn, hk, hm, hM, h, k => by
    have g1 := dpart_len hg
    have IH := Lib.hid (fun bs' g' b' M' w' h1 h2 h3 h4 h5 h6 h7 => ways_any gs hg f bs' g' b' M' w' h1 h2 h3 h4 h5 h6 h7)
    have HLg := Lib.hid (fun W hW => dlist_any gs g W (by unfold maxLen; omega) hW)
    have HLb := Lib.hid (fun W hW => dlist_any bs b W (by unfold maxLen; omega) hW)
    rw [dtake hg] at HLg
    rw [show bs.take 11 = bs from List.take_of_length_le (by omega)] at HLb
    have HN := Lib.hid (fun a c W ha hc => Next_ok gs bs a c W hg hn (by omega) hk ha hc)
    have HNl := Lib.hid (show ((nextL gs bs).map fun (x : Nat) => (x : Int)) = nextI gs bs from rfl)
    rw [HNl.out] at HN
    have hnl := next_len gs bs
    have hnll : (nextI gs bs).length = (nextL gs bs).length := by unfold nextI; rw [List.length_map]
    have HAt := Lib.hid (fun j (hj : j < (nextL gs bs).length) => show nAt (nextI gs bs) j = (((nextL gs bs)[j]?.getD 0 : Nat) : Int) by unfold nAt nextI; rw [List.getElem?_map, List.getElem?_eq_getElem hj]; rfl)
    have HUs := Lib.hid (fun j hj => upN_succ (gs := gs) (b := bs) (f := f) (j := j) hj)
    have HUl := Lib.hid (fun j => upN_le (gs := gs) (b := bs) (f := f) j)
    have HUa := Lib.hid (fun j hj => upN_all (gs := gs) (b := bs) (f := f) (j := j) hj)
    have HU0 := Lib.hid (show upN gs bs f 0 = 0 from rfl)
    have HOk := Lib.hid (fun j hj => next_ok (gs := gs) (b := bs) (j := j) hk hn hj)
    have HBl := Lib.hid (show ∀ x : Int, (bs ++ [x]).length + f = gs.length from fun x => by rw [List.length_append]; simp; omega)
    have H := Lib.hid h
    have K := Lib.hid k
    obtain ⟨i0, hi, hz0, hz1, hz2⟩ := info_partsD info_intD
    obtain ⟨ao, cap, hv, _⟩ := h
    obtain ⟨bo, cap', hu, hcap, hbc⟩ := k
    subst hv hu
    have hbs8 : bs.length ≤ 8 := by omega
    have hq : ((bs.length : Int) == (gs.length : Int)) = false := by rw [beq_eq_false_iff_ne]; omega
    have hbl : (ivals bs).length = bs.length := by unfold ivals; rw [List.length_map]
    have hb0 : bs.length = 0 → ivals bs = [] := fun e => by rw [List.length_eq_zero_iff.1 e]; rfl
    have HBc := Lib.hid (show ∀ W : World, Below w.heap.size w W → ∀ ad, bo = some ad → ∀ j u, (ivals bs)[j]? = some u → W.cell? (ad.add j) = some u from fun W hW ad had j u hj => by
      have hjl : j < bs.length := by
        rw [List.getElem?_eq_some_iff] at hj
        obtain ⟨h1, _⟩ := hj
        rw [hbl] at h1; exact h1
      obtain ⟨bb, oo, e, hd⟩ := hbc (by omega)
      rw [had] at e
      cases e
      rw [add_addr]
      have := cell_later hW (hd j hjl)
      rw [this]
      unfold ivals at hj
      rw [List.getElem?_map, List.getElem?_eq_getElem hjl] at hj
      rw [List.getElem?_eq_getElem hjl]
      exact hj)
    have HBn := Lib.hid (show bo = none → bs.length = 0 ∧ bs.length = 0 from fun e => by
      rcases Nat.eq_zero_or_pos bs.length with h0 | h0
      · exact ⟨h0, h0⟩
      · obtain ⟨bb, oo, e2, _⟩ := hbc h0; rw [e] at e2; cases e2)
    have HIa := Lib.hid (fun (x : Int) (v : Value) (W : World) lo (ho : W.ownsRow lo 3 1 v (bs.length + 1) (ivals bs ++ [.int .i64 x])) => show IntsV W v (bs ++ [x]) from IntsV.of_own (lo := lo) (by rw [List.length_append, List.map_append]; exact ho))
    have hfl := fun W => run_full' (L := bs.length) (cap := cap') (ao := bo) hcap (fun h0 => by obtain ⟨bb, oo, e, _⟩ := hbc h0; exact ⟨bb, oo, e⟩) W
    have HLn := Lib.hid hbl
    have HD := Lib.hid (fun (v : Value) (W : World) (hW : IntsV W v (nextI gs bs)) (h0 : 0 < (nextI gs bs).length) => d_cells hW h0)
    rw [hnll] at hnl HD
    have HNv := Lib.hid (fun (v : Value) (W : World) (hW : IntsV W v (nextI gs bs)) => show ∃ a c, v = .slice a (nextL gs bs).length c by obtain ⟨a, c, e, _⟩ := hW; rw [hnll] at e; exact ⟨a, c, e⟩)
    clear hl hn hk hcap hbc hb0 hbl hnll hg g1
    generalize bs.length = L at *
    generalize gs.length = G at *
    generalize waysN gs (f + 1) bs = Wt at *
    generalize upN gs bs f = up at *
    generalize nextL gs bs = nl at *
    generalize nextI gs bs = ni at *
    have hWt : Wt ≤ 2000 := by omega
    go_enter Try.func61, Try.ntmps61
    go_wp2_with fail
    refine (HLg.out _ H.out).mono ?_
    rintro e w1 ⟨v1, rfl, i1, b1⟩
    have B1 := Lib.hid b1
    have I1 := Lib.hid i1
    clear i1 b1
    go_wp2_with fail
    refine (HLb.out _ (K.out.later B1.out)).mono ?_
    rintro e w2 ⟨v2, rfl, i2, b2⟩
    have B2 := Lib.hid (below_nx B1.out b2)
    have J1 := Lib.hid (I1.out.later b2)
    have J2 := Lib.hid i2
    clear i2 b2
    go_wp2_with fail
    refine (HN.out _ _ _ J1.out J2.out).mono ?_
    rintro e w3 ⟨v3, rfl, i3, b3⟩
    have B3 := Lib.hid (below_nx B2.out b3)
    obtain ⟨na, nc, rfl⟩ := HNv.out _ _ i3
    have I3 := Lib.hid i3
    clear i3 b3
    obtain ⟨N, hN⟩ : ∃ N, nl.length = N := ⟨_, rfl⟩
    rw [hN] at hnl HD HAt HUs HUa HOk I3 ⊢
    clear hN
    go_wp2_with fail
    go_loopw [30, 9] (fun i n wr => ∃ j : Nat, j ≤ N ∧ i = .int .i64 (j : Int) ∧ n = .int .i64 ((up j : Nat) : Int) ∧ Below w3.heap.size w3 wr) (fun i _ _ => N - (valB i).toNat)
    case atStart => exact ⟨0, Nat.zero_le _, rfl, by rw [HU0.out]; rfl, Below.refl _ _⟩
    case round =>
      obtain ⟨j, hj, rfl, rfl, hbr⟩ := hrel
      have HBr := Lib.hid hbr
      have HBw := Lib.hid (below_nx B3.out hbr)
      clear hbr
      have hU := HUl.out j
      by_cases hlt : j < N
      · obtain ⟨cb, co, cc, ec, hcc⟩ := HD.out _ _ (I3.out.later HBr.out) (by omega)
        cases ec
        have cj := hcc j hlt
        rw [HAt.out j hlt] at cj
        obtain ⟨o1, o2⟩ := HOk.out j hlt
        have hus := HUs.out j hlt
        have hU1 := HUl.out (j + 1)
        have hl1 := HBl.out (((nl[j]?.getD 0 : Nat) : Int))
        have HO1 := Lib.hid o1
        have HO2 := Lib.hid o2
        have HL1 := Lib.hid hl1
        clear o1 o2 hl1 hcc
        obtain ⟨x, hx⟩ : ∃ x : Int, ((nl[j]?.getD 0 : Nat) : Int) = x := ⟨_, rfl⟩
        rw [hx] at cj HO1 HO2 HL1 hus
        clear hx
        have HIH := Lib.hid (fun g' b' M' W h4 h5 h6 h7 => IH.out (bs ++ [x]) g' b' M' W HL1.out HO2.out HO1.out h4 h5 h6 h7)
        obtain ⟨Y, hY⟩ : ∃ Y, waysN gs f (bs ++ [x]) = Y := ⟨_, rfl⟩
        rw [hY] at HIH hus
        rw [hus] at hU1
        have HUS := Lib.hid hus
        clear hus hY
        obtain ⟨U, hUe⟩ : ∃ U, up j = U := ⟨_, rfl⟩
        rw [hUe] at HUS hU1 hU ⊢
        clear hUe
        have q1 : decide ((Y : Int) < 0) = false := decide_eq_false (by omega)
        have q2 : decide (M < (U : Int) + (Y : Int)) = false := decide_eq_false (by omega)
        go_wp2_with (at_builtin; refine wpList_append_grows _ rfl (.tmp 40) (.tmp 42) 22 rfl 3 i0 (.int .i64 0) 1 8 Try.underlying22 hi hz0 hz1 hz2 rfl (by decide) bo L L (ivals bs) rfl HBn.out (by rw [HLn.out, Nat.mul_one]) (HBc.out _ (HBw.out.alloc HBw.out.size _)) ⟨wr.heap.size, 0, none⟩ 1 1 [.int .i64 x] rfl rfl (cell_one_new _ _ _) (by simp [Value.oneCell']) (by omega) (by unfold maxLen; omega) (by omega) ?_; intro v' w4 hown hgrow; have HOW := Lib.hid hown; have HB4 := Lib.hid (((Below.refl wr.heap.size wr).alloc (Nat.le_refl _) (.cells #[.int .i64 x] 3)).grown hgrow (by rw [World.size_alloc]; exact Nat.le_succ _) (fun k e => by cases e)); clear hown hgrow)
        refine (HIH.out _ _ _ _ (by omega) (by omega) (H.out.later (below_nx HBw.out HB4.out)) (HIa.out _ _ _ _ HOW.out)).mono ?_
        rintro e w5 ⟨rfl, b5⟩
        have HB5 := Lib.hid (below_nx HBr.out (below_nx HB4.out b5))
        clear b5
        go_wp2
        go_roundw
        case rel => exact ⟨j + 1, by omega, by go_num, by rw [HUS.out]; go_num, HB5.out⟩
        case measure => simp only [valB]; omega
      · obtain rfl : j = N := by omega
        have hua := Lib.hid (HUa.out j (Nat.le_refl _))
        go_wp2
        go_ret
        exact ⟨ret_int (by rw [hua.out]), HBw.out⟩

set_option maxHeartbeats 4000000 in
theorem DuetsBuilt_walk (gs : List Int) (g : Value) (w : World) (hl : gs.length ≤ maxLen) (h : IntsV w g gs) :
    Calls Try.prog 14 #[g] w fun e w' => e = .returned (.bool true) ∧ Below w.heap.size w w' := by
  have HAw := Lib.hid (fun W => dawake_any W)
  have HLg := Lib.hid (fun W hW => dlist_any gs g W hl hW)
  have HPr := Lib.hid (fun W a => RPartD_any gs g W hl a)
  have H := Lib.hid h
  cases hg : dpartB gs
  · have HC := Lib.hid (fun a W ha => Count_bad (gs.take 11) a W take11 (by rw [dpart_take]; exact hg) ha)
    obtain ⟨ao, cap, hv, _⟩ := h
    subst hv
    clear hg hl
    go_enter Try.func14, Try.ntmps14
    go_wp2_with fail
    refine (HLg.out _ H.out).mono ?_
    rintro e w1 ⟨v1, rfl, i1, b1⟩
    have B1 := Lib.hid b1
    have I1 := Lib.hid i1
    clear b1 i1
    go_wp2_with fail
    refine (HC.out _ _ I1.out).mono ?_
    rintro e w2 ⟨rfl, rfl⟩
    go_wp2_with fail
    refine (HAw.out _).mono ?_
    rintro e w3 ⟨rfl, b3⟩
    go_wp2
    go_ret
    exact ⟨rfl, below_nx B1.out b3⟩
  · have g1 := dpart_len hg
    rw [hg] at HPr
    rw [dtake hg] at HLg
    have HC := Lib.hid (fun a W ha => Count_ok gs a W hg ha)
    have hwr := ways_right g1.1
    have HWy := Lib.hid (fun W (hr : (rightL gs).length ≤ 2000) ha => ways_any gs hg gs.length [] g (.slice none 0 0) 2000 W (by simp) rfl rfl (by rw [hwr]; omega) (by omega) ha (IntsV.nilD W))
    rw [hwr] at HWy
    obtain ⟨ao, cap, hv, _⟩ := h
    subst hv
    clear hg hl hwr
    generalize (rightL gs).length = R at *
    generalize gs.length = G at *
    have HRi := Lib.hid (show ((R : Int) == (R : Int)) = true from beq_self_eq_true _)
    by_cases hR : R ≤ 2000
    · have q1 : decide (2000 < (R : Int)) = false := decide_eq_false (by omega)
      go_enter Try.func14, Try.ntmps14
      go_wp2_with fail
      refine (HLg.out _ H.out).mono ?_
      rintro e w1 ⟨v1, rfl, i1, b1⟩
      have B1 := Lib.hid b1
      have I1 := Lib.hid i1
      clear b1 i1
      go_wp2_with fail
      refine (HC.out _ _ I1.out).mono ?_
      rintro e w2 ⟨rfl, b2⟩
      have B2 := Lib.hid (below_nx B1.out b2)
      clear b2
      go_wp2_with fail
      refine (HPr.out _ (H.out.later B2.out)).mono ?_
      rintro e w3 ⟨rfl, rfl⟩
      go_wp2_with fail
      refine (HWy.out _ hR (H.out.later B2.out)).mono ?_
      rintro e w4 ⟨rfl, b4⟩
      have B4 := Lib.hid (below_nx B2.out b4)
      clear b4
      go_wp2_with fail
      refine (HAw.out _).mono ?_
      rintro e w5 ⟨rfl, b5⟩
      go_wp2
      go_ret
      exact ⟨rfl, below_nx B4.out b5⟩
    · have q1 : decide (2000 < (R : Int)) = true := decide_eq_true (by omega)
      go_enter Try.func14, Try.ntmps14
      go_wp2_with fail
      refine (HLg.out _ H.out).mono ?_
      rintro e w1 ⟨v1, rfl, i1, b1⟩
      have B1 := Lib.hid b1
      have I1 := Lib.hid i1
      clear b1 i1
      go_wp2_with fail
      refine (HC.out _ _ I1.out).mono ?_
      rintro e w2 ⟨rfl, b2⟩
      have B2 := Lib.hid (below_nx B1.out b2)
      clear b2
      go_wp2_with fail
      refine (HPr.out _ (H.out.later B2.out)).mono ?_
      rintro e w3 ⟨rfl, rfl⟩
      go_wp2_with fail
      refine (HAw.out _).mono ?_
      rintro e w5 ⟨rfl, b5⟩
      go_wp2
      go_ret
      exact ⟨rfl, below_nx B2.out b5⟩
end

section
/-
  The reference's worth of a second part.
-/
open Go.ChangeShapes Go.WideShapes Go.ChangeAt Go.RowKit
set_option linter.unusedVariables false
set_option maxRecDepth 100000

theorem worthAt_eq (gs ss : List Int) (j : Nat) : worthAt gs ss j = (if (0 < mvA ss j ∧ mvA gs j < 0) ∨ (mvA ss j < 0 ∧ 0 < mvA gs j) then 3 else 0) + (if absI (mvA ss j) = 1 then 1 else 0) - (if mvA ss j = 0 then 1 else 0) := by
  unfold worthAt
  have h1 : (mvA gs j * mvA ss j < 0) = ((0 < mvA ss j ∧ mvA gs j < 0) ∨ (mvA ss j < 0 ∧ 0 < mvA gs j)) := by rw [mul_neg_cases]; apply propext; omega
  have h2 : (mvA ss j = 1 ∨ mvA ss j = -1) = (absI (mvA ss j) = 1) := by unfold absI; apply propext; omega
  simp only [h1, h2]

set_option maxHeartbeats 4000000 in
theorem RWorth_any (gs ss : List Int) (g s : Value) (w : World) (g8 : gs.length ≤ 8) (hgn : notesB gs = true) (hsn : notesB ss = true) (hle : ss.length = gs.length) (h1 : 1 ≤ ss.length) (h : IntsV w g gs) (k : IntsV w s ss) :
    Calls Try.prog 91 #[g, s] w fun e w' => e = .returned (.int .i64 (worthT gs ss ss.length)) ∧ ∃ q, w' = w.drewN q := by
  obtain ⟨b1, o1, c1, rfl, hg0⟩ := d_cells h (by omega)
  obtain ⟨b2, o2, c2, rfl, hs0⟩ := d_cells k (by omega)
  have HG := Lib.hid hg0
  have HS := Lib.hid hs0
  have HNg := Lib.hid (fun i (hi : i < gs.length) => note_at hgn hi)
  have HNs := Lib.hid (fun i (hi : i < ss.length) => note_at hsn hi)
  have HT := Lib.hid (fun n (hn : 1 ≤ n) => worthT_succ (gs := gs) (ss := ss) hn)
  have HTl := Lib.hid (fun n => worthT_le gs ss n)
  have HT1 := Lib.hid (show worthT gs ss 1 = 0 from rfl)
  have HAt := Lib.hid (fun j => worthAt_eq gs ss j)
  have HAb := Lib.hid (fun (x : Int) (hx : -100 ≤ x ∧ x ≤ 100) W => rabs_any x hx W)
  clear h k hg0 hs0 hgn hsn
  generalize gs.length = L at *
  generalize ss.length = L' at *
  subst hle
  go_enter Try.func91, Try.ntmps91
  go_wp2_with fail
  go_loopw [5, 6] (fun u t wr => ∃ j q : Nat, 1 ≤ j ∧ j ≤ L' ∧ t = .int .i64 (j : Int) ∧ u = .int .i64 (worthT gs ss j) ∧ wr = w.drewN q) (fun _ t _ => L' - (valK t).toNat)
  case atStart => exact ⟨1, 0, Nat.le_refl _, h1, rfl, by rw [HT1.out], rfl⟩
  case round =>
    obtain ⟨j, q, hj1, hj, rfl, rfl, rfl⟩ := hrel
    by_cases hlt : j < L'
    · have HTj := Lib.hid (HT.out j hj1)
      have hsl := HTl.out j
      have hat := HAt.out j
      obtain ⟨z1, z2, z3⟩ := idx1 hj1 (show j < 1000 by omega)
      have a1 : (w.drewN q).cell? ⟨b1, o1 + j, none⟩ = _ := HG.out j hlt
      have a2 : (w.drewN q).cell? ⟨b2, o2 + j, none⟩ = _ := HS.out j hlt
      have a3 : (w.drewN q).cell? ⟨b1, o1 + (j - 1), none⟩ = _ := HG.out (j - 1) (by omega)
      have a4 : (w.drewN q).cell? ⟨b2, o2 + (j - 1), none⟩ = _ := HS.out (j - 1) (by omega)
      have n1 := HNg.out j hlt
      have n2 := HNs.out j hlt
      have n3 := HNg.out (j - 1) (by omega)
      have n4 := HNs.out (j - 1) (by omega)
      unfold mvA at hat
      generalize nAt gs j = x at *
      generalize nAt ss j = y at *
      generalize nAt gs (j - 1) = x1 at *
      generalize nAt ss (j - 1) = y1 at *
      generalize worthT gs ss j = sm at *
      generalize worthAt gs ss j = dl at *
      have HJ := Lib.hid (HAb.out (y - y1) (by omega))
      have HAt2 := Lib.hid hat
      clear hat
      obtain ⟨w1, hw1⟩ : ∃ W, w.drewN q = W := ⟨_, rfl⟩
      have HW := Lib.hid hw1
      rw [hw1] at a1 a2 a3 a4 ⊢
      clear hw1
      go_upto_region 5 with fail
      go_quiet (fail)
      go_upto_region 6 with fail
      obtain ⟨m, hm⟩ : ∃ m, y - y1 = m := ⟨_, rfl⟩
      obtain ⟨g, hg⟩ : ∃ g, x - x1 = g := ⟨_, rfl⟩
      rw [hm] at HJ HAt2 ⊢
      rw [hg] at HAt2 ⊢
      have hmb : -20 ≤ m ∧ m ≤ 20 := by omega
      have habs : (0 ≤ m → absI m = m) ∧ (m < 0 → absI m = -m) := by unfold absI; omega
      have HAB := Lib.hid habs
      clear hm hg a1 a2 a3 a4 z1 z2 z3 habs n1 n2 n3 n4
      generalize absI m = am at *
      rcases (show (0 < m ∧ g < 0) ∨ (0 < m ∧ 0 ≤ g) ∨ (m < 0 ∧ 0 < g) ∨ (m < 0 ∧ g ≤ 0) ∨ m = 0 by omega) with hc | hc | hc | hc | hc
      · by_cases ha : am = 1
        all_goals
          have q1 : decide (0 < m) = true := decide_eq_true (by omega)
          have q2 : decide (g < 0) = true := decide_eq_true (by omega)
          have q3 : decide (m < 0) = false := decide_eq_false (by omega)
          have q5 : (m == 0) = false := beq_eq_false_iff_ne.2 (by omega)
          have HD := Lib.hid (show dl = 3 + (if am = 1 then 1 else 0) by rw [HAt2.out, if_pos (show (0 < m ∧ g < 0) ∨ (m < 0 ∧ 0 < g) by omega), if_neg (show ¬ m = 0 by omega)]; omega)
        · have q6 : (am == 1) = true := beq_iff_eq.2 ha
          rw [if_pos ha] at HD
          clear ha hc
          go_wp2_with fail
          refine (HJ.out _).mono ?_
          rintro e wz ⟨rfl, rfl⟩
          go_wp2
          go_roundw
          case rel => exact ⟨j + 1, q + nq, by omega, by omega, by go_num, congrArg (Value.int .i64) (by rw [HTj.out, HD.out]; omega), by rw [← HW.out]; first | rfl | simp only [World.drewN_drewN]⟩
          case measure => simp only [valK]; omega
        · have q6 : (am == 1) = false := beq_eq_false_iff_ne.2 ha
          rw [if_neg ha] at HD
          clear ha hc
          go_wp2_with fail
          refine (HJ.out _).mono ?_
          rintro e wz ⟨rfl, rfl⟩
          go_wp2
          go_roundw
          case rel => exact ⟨j + 1, q + nq, by omega, by omega, by go_num, congrArg (Value.int .i64) (by rw [HTj.out, HD.out]; omega), by rw [← HW.out]; first | rfl | simp only [World.drewN_drewN]⟩
          case measure => simp only [valK]; omega
      · by_cases ha : am = 1
        all_goals
          have q1 : decide (0 < m) = true := decide_eq_true (by omega)
          have q2 : decide (g < 0) = false := decide_eq_false (by omega)
          have q3 : decide (m < 0) = false := decide_eq_false (by omega)
          have q5 : (m == 0) = false := beq_eq_false_iff_ne.2 (by omega)
          have HD := Lib.hid (show dl = 0 + (if am = 1 then 1 else 0) by rw [HAt2.out, if_neg (show ¬ ((0 < m ∧ g < 0) ∨ (m < 0 ∧ 0 < g)) by omega), if_neg (show ¬ m = 0 by omega)]; omega)
        · have q6 : (am == 1) = true := beq_iff_eq.2 ha
          rw [if_pos ha] at HD
          clear ha hc
          go_wp2_with fail
          refine (HJ.out _).mono ?_
          rintro e wz ⟨rfl, rfl⟩
          go_wp2
          go_roundw
          case rel => exact ⟨j + 1, q + nq, by omega, by omega, by go_num, congrArg (Value.int .i64) (by rw [HTj.out, HD.out]; omega), by rw [← HW.out]; first | rfl | simp only [World.drewN_drewN]⟩
          case measure => simp only [valK]; omega
        · have q6 : (am == 1) = false := beq_eq_false_iff_ne.2 ha
          rw [if_neg ha] at HD
          clear ha hc
          go_wp2_with fail
          refine (HJ.out _).mono ?_
          rintro e wz ⟨rfl, rfl⟩
          go_wp2
          go_roundw
          case rel => exact ⟨j + 1, q + nq, by omega, by omega, by go_num, congrArg (Value.int .i64) (by rw [HTj.out, HD.out]; omega), by rw [← HW.out]; first | rfl | simp only [World.drewN_drewN]⟩
          case measure => simp only [valK]; omega
      · by_cases ha : am = 1
        all_goals
          have q1 : decide (0 < m) = false := decide_eq_false (by omega)
          have q3 : decide (m < 0) = true := decide_eq_true (by omega)
          have q4 : decide (0 < g) = true := decide_eq_true (by omega)
          have q5 : (m == 0) = false := beq_eq_false_iff_ne.2 (by omega)
          have HD := Lib.hid (show dl = 3 + (if am = 1 then 1 else 0) by rw [HAt2.out, if_pos (show (0 < m ∧ g < 0) ∨ (m < 0 ∧ 0 < g) by omega), if_neg (show ¬ m = 0 by omega)]; omega)
        · have q6 : (am == 1) = true := beq_iff_eq.2 ha
          rw [if_pos ha] at HD
          clear ha hc
          go_wp2_with fail
          refine (HJ.out _).mono ?_
          rintro e wz ⟨rfl, rfl⟩
          go_wp2
          go_roundw
          case rel => exact ⟨j + 1, q + nq, by omega, by omega, by go_num, congrArg (Value.int .i64) (by rw [HTj.out, HD.out]; omega), by rw [← HW.out]; first | rfl | simp only [World.drewN_drewN]⟩
          case measure => simp only [valK]; omega
        · have q6 : (am == 1) = false := beq_eq_false_iff_ne.2 ha
          rw [if_neg ha] at HD
          clear ha hc
          go_wp2_with fail
          refine (HJ.out _).mono ?_
          rintro e wz ⟨rfl, rfl⟩
          go_wp2
          go_roundw
          case rel => exact ⟨j + 1, q + nq, by omega, by omega, by go_num, congrArg (Value.int .i64) (by rw [HTj.out, HD.out]; omega), by rw [← HW.out]; first | rfl | simp only [World.drewN_drewN]⟩
          case measure => simp only [valK]; omega
      · by_cases ha : am = 1
        all_goals
          have q1 : decide (0 < m) = false := decide_eq_false (by omega)
          have q3 : decide (m < 0) = true := decide_eq_true (by omega)
          have q4 : decide (0 < g) = false := decide_eq_false (by omega)
          have q5 : (m == 0) = false := beq_eq_false_iff_ne.2 (by omega)
          have HD := Lib.hid (show dl = 0 + (if am = 1 then 1 else 0) by rw [HAt2.out, if_neg (show ¬ ((0 < m ∧ g < 0) ∨ (m < 0 ∧ 0 < g)) by omega), if_neg (show ¬ m = 0 by omega)]; omega)
        · have q6 : (am == 1) = true := beq_iff_eq.2 ha
          rw [if_pos ha] at HD
          clear ha hc
          go_wp2_with fail
          refine (HJ.out _).mono ?_
          rintro e wz ⟨rfl, rfl⟩
          go_wp2
          go_roundw
          case rel => exact ⟨j + 1, q + nq, by omega, by omega, by go_num, congrArg (Value.int .i64) (by rw [HTj.out, HD.out]; omega), by rw [← HW.out]; first | rfl | simp only [World.drewN_drewN]⟩
          case measure => simp only [valK]; omega
        · have q6 : (am == 1) = false := beq_eq_false_iff_ne.2 ha
          rw [if_neg ha] at HD
          clear ha hc
          go_wp2_with fail
          refine (HJ.out _).mono ?_
          rintro e wz ⟨rfl, rfl⟩
          go_wp2
          go_roundw
          case rel => exact ⟨j + 1, q + nq, by omega, by omega, by go_num, congrArg (Value.int .i64) (by rw [HTj.out, HD.out]; omega), by rw [← HW.out]; first | rfl | simp only [World.drewN_drewN]⟩
          case measure => simp only [valK]; omega
      · have q1 : decide (0 < m) = false := decide_eq_false (by omega)
        have q3 : decide (m < 0) = false := decide_eq_false (by omega)
        have q5 : (m == 0) = true := beq_iff_eq.2 hc
        have q6 : (am == 1) = false := beq_eq_false_iff_ne.2 (by have := HAB.out; omega)
        have HD := Lib.hid (show dl = -1 by rw [HAt2.out, if_neg (show ¬ ((0 < m ∧ g < 0) ∨ (m < 0 ∧ 0 < g)) by omega), if_neg (show ¬ am = 1 by have := HAB.out; omega), if_pos hc]; rfl)
        clear hc
        go_wp2_with fail
        refine (HJ.out _).mono ?_
        rintro e wz ⟨rfl, rfl⟩
        go_wp2
        go_roundw
        case rel => exact ⟨j + 1, q + nq, by omega, by omega, by go_num, congrArg (Value.int .i64) (by rw [HTj.out, HD.out]; omega), by rw [← HW.out]; first | rfl | simp only [World.drewN_drewN]⟩
        case measure => simp only [valK]; omega
    · obtain rfl : j = L' := by omega
      go_wp2
      go_ret
      exact ⟨rfl, q, rfl⟩
end

section
/-
  The reference's search through all second parts.
-/
open Go.ChangeShapes Go.WideShapes Go.ChangeAt Go.RowKit
set_option linter.unusedVariables false
set_option maxRecDepth 100000

/-! ### all blocks but one stay as they are -/
def KF (F : Nat) (W W' : World) : Prop := Below F W W' ∧ ∀ k, k < W.heap.size → k ≠ F → W'.heap[k]? = W.heap[k]?
theorem KF.refl (F : Nat) (W : World) : KF F W W := ⟨Below.refl _ _, fun _ _ _ => rfl⟩
theorem KF.trans {F : Nat} {a b c : World} (h : KF F a b) (k : KF F b c) : KF F a c :=
  ⟨h.1.trans k.1, fun i hi hne => (k.2 i (Nat.lt_of_lt_of_le hi h.1.size) hne).trans (h.2 i hi hne)⟩
theorem KF.of_below {F : Nat} {W W' : World} (h : Below W.heap.size W W') (hF : F < W.heap.size) : KF F W W' := ⟨h.mono (Nat.le_of_lt hF), fun k hk _ => h.block k hk⟩
theorem KF.set (F i : Nat) (W : World) (u : Value) : KF F W (W.setCell ⟨F, i, none⟩ u) :=
  ⟨(Below.refl F W).setCell (p := ⟨F, i, none⟩) (Nat.le_refl _) u, fun k _ hne => Below.heap_setCell W ⟨F, i, none⟩ u k hne⟩
theorem KF.size {F : Nat} {W W' : World} (h : KF F W W') : W.heap.size ≤ W'.heap.size := h.1.size
/-- A slice of integers that lies elsewhere. -/
def IntsF (F : Nat) (W : World) (v : Value) (xs : List Int) : Prop :=
  ∃ (ao : Option Addr) (cap : Nat), v = .slice ao xs.length cap ∧ xs.length ≤ cap ∧ (0 < xs.length → ∃ b off, ao = some ⟨b, off, none⟩ ∧ b ≠ F ∧ ∀ i, i < xs.length → W.cell? ⟨b, off + i, none⟩ = some (.int .i64 (xs[i]?.getD 0)))
theorem IntsF.ints {F : Nat} {W : World} {v : Value} {xs : List Int} (h : IntsF F W v xs) : IntsV W v xs := by
  obtain ⟨ao, cap, e, h1, h2⟩ := h
  exact ⟨ao, cap, e, h1, fun h0 => by obtain ⟨b, off, e1, _, e2⟩ := h2 h0; exact ⟨b, off, e1, e2⟩⟩
theorem IntsF.keep {F : Nat} {W W' : World} {v : Value} {xs : List Int} (h : IntsF F W v xs) (k : KF F W W') : IntsF F W' v xs := by
  obtain ⟨ao, cap, e, h1, h2⟩ := h
  refine ⟨ao, cap, e, h1, fun h0 => ?_⟩
  obtain ⟨b, off, e1, hne, e2⟩ := h2 h0
  refine ⟨b, off, e1, hne, fun i hi => ?_⟩
  have hb := World.block_lt_of_cell? W _ (e2 i hi)
  exact (World.cell?_of_block (w := W) (k.2 b hb hne)).trans (e2 i hi)
theorem IntsF.of_own {F lo : Nat} {W : World} {v : Value} {xs : List Int} (h : W.ownsRow lo 3 1 v xs.length (xs.map (Value.int .i64))) (hlo : F < lo) : IntsF F W v xs := by
  have h' := h
  obtain ⟨h0, h1 | ⟨g, cap, cur, hv, hg, hh, h2⟩⟩ := h
  · exact ⟨none, 0, by rw [h1.1, h1.2], by omega, fun h => by omega⟩
  · refine ⟨_, cap, hv, h2.1, fun _ => ⟨g, 0, rfl, by omega, fun i hi => ?_⟩⟩
    have := IntsV.of_own h'
    obtain ⟨ao, c2, e, _, hc⟩ := this
    obtain ⟨b, off, e3, hd⟩ := hc (by omega)
    rw [hv] at e
    cases e
    cases e3
    exact hd i hi
theorem IntsF.low {F : Nat} {W : World} {v : Value} {xs : List Int} (h : IntsV W v xs) (hF : F = W.heap.size) : IntsF F W v xs := by
  obtain ⟨ao, cap, e, h1, h2⟩ := h
  refine ⟨ao, cap, e, h1, fun h0 => ?_⟩
  obtain ⟨b, off, e1, e2⟩ := h2 h0
  refine ⟨b, off, e1, ?_, e2⟩
  have := World.block_lt_of_cell? W _ (e2 0 h0)
  dsimp only at this
  omega
theorem IntsF.nil (F : Nat) (W : World) : IntsF F W (.slice none 0 0) [] := ⟨none, 0, rfl, by simp, fun h => by simp at h⟩

/-! ### what is found -/
structure SrS where
  cnt : Nat
  lng : Nat
  wor : Int
  fst : List Int
  bst : List Int
def SAt (F : Nat) (W : World) (s : SrS) : Prop :=
  ∃ v1 v2, Row W F 86 [.int .i64 (s.cnt : Int), .int .i64 (s.lng : Int), .int .i64 s.wor, v1, v2] ∧ IntsF F W v1 s.fst ∧ IntsF F W v2 s.bst
theorem SAt.keep {F : Nat} {W W' : World} {s : SrS} (h : SAt F W s) (k : Below W.heap.size W W') : SAt F W' s := by
  obtain ⟨v1, v2, h1, h2, h3⟩ := h
  have hF := h1.lt
  exact ⟨v1, v2, h1.later k, h2.keep (KF.of_below k hF), h3.keep (KF.of_below k hF)⟩
/-- One second part is counted. -/
def stepS (gs : List Int) (s : SrS) (m : List Int) : SrS :=
  if m.length = gs.length then
    { cnt := s.cnt + 1, lng := max s.lng m.length, wor := if s.cnt = 0 ∨ s.wor < worthW gs m then worthW gs m else s.wor, fst := if s.cnt = 0 then m else s.fst, bst := if s.cnt = 0 ∨ s.wor < worthW gs m then m else s.bst }
  else { s with lng := max s.lng m.length }
def runS (gs : List Int) (s : SrS) (l : List (List Int)) : SrS := l.foldl (stepS gs) s
theorem runS_append (gs : List Int) (s : SrS) (a b : List (List Int)) : runS gs s (a ++ b) = runS gs (runS gs s a) b := by unfold runS; rw [List.foldl_append]
theorem stepS_lng (gs : List Int) (s : SrS) (m : List Int) : (stepS gs s m).lng = max s.lng m.length := by unfold stepS; split <;> rfl
theorem stepS_cnt (gs : List Int) (s : SrS) (m : List Int) : (stepS gs s m).cnt ≤ s.cnt + 1 := by unfold stepS; split <;> simp
theorem runS_cnt (gs : List Int) : ∀ (l : List (List Int)) (s : SrS), (runS gs s l).cnt ≤ s.cnt + l.length
  | [], s => Nat.le_refl _
  | m :: l, s => by
    have h := runS_cnt gs l (stepS gs s m)
    have h2 := stepS_cnt gs s m
    unfold runS at *
    rw [List.foldl_cons, List.length_cons]
    omega
theorem runS_lng (gs : List Int) : ∀ (l : List (List Int)) (s : SrS) (B : Nat), s.lng ≤ B → (∀ m ∈ l, m.length ≤ B) → (runS gs s l).lng ≤ B
  | [], s, B, h, _ => h
  | m :: l, s, B, h, hl => by
    unfold runS
    rw [List.foldl_cons]
    exact runS_lng gs l (stepS gs s m) B (by rw [stepS_lng]; have := hl m (by simp); omega) (fun x hx => hl x (by simp [hx]))
/-- What comes behind a beginning, for the first notes. -/
def begU (gs : List Int) (n : Nat) (b : List Int) (X : Nat) : List (List Int) := ((List.range X).filter fun (x : Nat) => decide (faultN gs (b ++ [(x : Int)]) b.length = 0)).flatMap fun (x : Nat) => (b ++ [(x : Int)]) :: begL gs n (b ++ [(x : Int)])
theorem begU_all (gs : List Int) (n : Nat) (b : List Int) : begU gs n b 21 = begL gs (n + 1) b := rfl
theorem begU_hit {gs : List Int} {n : Nat} {b : List Int} {X : Nat} (h : brokenN gs (b ++ [(X : Int)]) b.length = 0) : begU gs n b (X + 1) = begU gs n b X ++ ((b ++ [(X : Int)]) :: begL gs n (b ++ [(X : Int)])) := by
  unfold begU
  rw [List.range_succ, List.filter_append, List.flatMap_append]
  congr 1
  rw [List.filter_cons_of_pos (by rw [decide_eq_true_eq, fault_eq]; exact h)]
  simp
theorem begU_miss {gs : List Int} {n : Nat} {b : List Int} {X : Nat} (h : brokenN gs (b ++ [(X : Int)]) b.length ≠ 0) : begU gs n b (X + 1) = begU gs n b X := by
  unfold begU
  rw [List.range_succ, List.filter_append, List.flatMap_append, List.filter_cons_of_neg (by rw [decide_eq_true_eq, fault_eq]; exact h)]
  simp
theorem begU_len {gs : List Int} {n : Nat} {b : List Int} {X : Nat} : (begU gs n b X).length ≤ X * 22 ^ n := by
  unfold begU
  have h := flat_le (fun x : Nat => (b ++ [(x : Int)]) :: begL gs n (b ++ [(x : Int)])) (22 ^ n) ((List.range X).filter fun (x : Nat) => decide (faultN gs (b ++ [(x : Int)]) b.length = 0)) (fun x _ => by
    rw [List.length_cons]; exact begL_length gs n _)
  have h2 : ((List.range X).filter fun (x : Nat) => decide (faultN gs (b ++ [(x : Int)]) b.length = 0)).length ≤ X := by
    refine Nat.le_trans (List.length_filter_le _ _) ?_
    rw [List.length_range]; exact Nat.le_refl _
  exact Nat.le_trans h (Nat.mul_le_mul_right _ h2)
theorem begU_lens {gs : List Int} {n : Nat} {b : List Int} {X : Nat} : ∀ m ∈ begU gs n b X, m.length ≤ b.length + n + 1 := by
  intro m hm
  unfold begU at hm
  obtain ⟨x, _, hx⟩ := List.mem_flatMap.1 hm
  rcases List.mem_cons.1 hx with rfl | hx
  · rw [List.length_append]; simp
  · obtain ⟨t, rfl, h1, h2, _⟩ := (mem_beg gs n _ _).1 hx
    rw [List.length_append, List.length_append]; simp; omega
theorem kept_more {gs b : List Int} {X : Nat} (hk : keptB gs b = true) (hb : notesB b = true) (hX : X < 21) (h : brokenN gs (b ++ [(X : Int)]) b.length = 0) : keptB gs (b ++ [(X : Int)]) = true ∧ notesB (b ++ [(X : Int)]) = true := by
  refine ⟨(kept_iff _ _).2 fun i hi => ?_, by rw [notes_append, hb]; unfold notesB noteB; simp; omega⟩
  rw [List.length_append] at hi
  simp only [List.length_cons, List.length_nil] at hi
  by_cases e : i = b.length
  · rw [e, fault_eq]; exact h
  · rw [fault_pre gs b [(X : Int)] [] (by omega), List.append_nil]
    exact (kept_iff _ _).1 hk i (by omega)
theorem notes_more {b : List Int} {X : Nat} (hb : notesB b = true) (hX : X < 21) : notesB (b ++ [(X : Int)]) = true := by
  rw [notes_append, hb]; unfold notesB noteB; simp; omega

set_option maxHeartbeats 8000000 in
theorem search_leaf (gs : List Int) (hg : dpartB gs = true) (bs : List Int) (g b : Value) (F : Nat) (s : SrS) (w : World) (hl : bs.length = gs.length) (hn : notesB bs = true) (hk : keptB gs bs = true)
    (hc : s.cnt < 2 ^ 60) (hlg : s.lng ≤ 8) (hs : SAt F w s) (h : IntsF F w g gs) (k : IntsF F w b bs) :
    Calls Try.prog 88 #[g, b, .pointer (some ⟨F, 0, none⟩)] w fun e w' => e = .returned (.tuple #[]) ∧ KF F w w' ∧ SAt F w' (stepS gs s bs) := by
  have g1 := dpart_len hg
  obtain ⟨v1, v2, hr, hf1, hf2⟩ := hs
  have HW := Lib.hid (fun W ha hb => RWorth_any gs bs g b W g1.2.1 g1.2.2 hn hl (by omega) ha hb)
  have H := Lib.hid h
  have K := Lib.hid k
  have hF := hr.lt
  obtain ⟨ao, cap, hv, _⟩ := h
  obtain ⟨bo, cap', hu, _⟩ := k
  subst hv hu
  have HE := Lib.hid (show stepS gs s bs = _ from if_pos hl)
  have HWo := Lib.hid (show worthW gs bs = worthT gs bs bs.length from rfl)
  rw [HWo.out] at HE
  have hwb := worthT_le gs bs bs.length
  have g8 := g1.2.1
  clear hg g1 hn hk HWo
  generalize worthT gs bs bs.length = wo at *
  generalize bs.length = L at *
  generalize gs.length = G at *
  subst hl
  obtain ⟨cnt, lng, wor, fst, bst⟩ := s
  dsimp only at hr hf1 hf2 HE hc hlg
  have HF1 := Lib.hid hf1
  have HF2 := Lib.hid hf2
  clear hf1 hf2
  have c0 : w.cell? ⟨F, 0, none⟩ = some (.int .i64 (cnt : Int)) := hr.cell 0
  have c1 : w.cell? ⟨F, 1, none⟩ = some (.int .i64 (lng : Int)) := hr.cell 1
  have z1 := hr.frozen 1
  go_enter Try.func88, Try.ntmps88
  go_upto_region 1 with fail
  obtain ⟨M, hM⟩ : ∃ M : Nat, max lng L = M := ⟨_, rfl⟩
  have hMi : max (lng : Int) (L : Int) = (M : Int) := by omega
  rw [hMi]
  rw [hM] at HE
  have r1 : Row (w.setCell ⟨F, 1, none⟩ (.int .i64 (M : Int))) F 86 [.int .i64 (cnt : Int), .int .i64 (M : Int), .int .i64 wor, v1, v2] := hr.set 1 (.int .i64 (M : Int))
  have K1 := Lib.hid (KF.set F 1 w (.int .i64 (M : Int)))
  clear c0 c1 z1 hr hM hMi
  generalize w.setCell ⟨F, 1, none⟩ (.int .i64 (M : Int)) = w1 at *
  have c0 : w1.cell? ⟨F, 0, none⟩ = some (.int .i64 (cnt : Int)) := r1.cell 0
  have z0 := r1.frozen 0
  have R1 := Lib.hid r1
  clear r1
  go_upto_region 3 with fail
  obtain ⟨C, hC⟩ : ∃ C : Nat, cnt + 1 = C := ⟨_, rfl⟩
  have hci : (cnt : Int) + 1 = (C : Int) := by omega
  rw [hci]
  rw [hC] at HE
  have r2 : Row (w1.setCell ⟨F, 0, none⟩ (.int .i64 (C : Int))) F 86 [.int .i64 (C : Int), .int .i64 (M : Int), .int .i64 wor, v1, v2] := R1.out.set 0 _
  have K2 := Lib.hid (K1.out.trans (KF.set F 0 w1 (.int .i64 (C : Int))))
  clear c0 z0 R1 K1 hci
  generalize w1.setCell ⟨F, 0, none⟩ (.int .i64 (C : Int)) = w2 at *
  have R2 := Lib.hid r2
  clear r2
  go_wp2_with fail
  refine (HW.out _ (H.out.keep K2.out).ints (K.out.keep K2.out).ints).mono ?_
  rintro e w3 ⟨rfl, q, rfl⟩
  have R3 := Lib.hid (R2.out.drewN q)
  have K3 := Lib.hid (K2.out.trans (KF.of_below (below_drewN (Below.refl _ w2) q) R2.out.lt))
  generalize w2.drewN q = w3 at *
  clear K2 R2
  have c0 : w3.cell? ⟨F, 0, none⟩ = some (.int .i64 (C : Int)) := R3.out.cell 0
  by_cases h0 : cnt = 0
  · have q1 : ((C : Int) == 1) = true := by rw [beq_iff_eq]; omega
    have z3 := R3.out.frozen 3
    have d3 : w3.cell? ⟨F, 3, none⟩ = some v1 := R3.out.cell 3
    go_upto_region 6 with fail
    have R4 := Lib.hid (show Row (w3.setCell ⟨F, 3, none⟩ (.slice bo L cap')) F 86 [.int .i64 (C : Int), .int .i64 (M : Int), .int .i64 wor, .slice bo L cap', v2] from R3.out.set 3 _)
    have K4 := Lib.hid (K3.out.trans (KF.set F 3 w3 (.slice bo L cap')))
    generalize w3.setCell ⟨F, 3, none⟩ (.slice bo L cap') = w4 at *
    clear K3 R3 c0 z3 d3
    have c0 : w4.cell? ⟨F, 0, none⟩ = some (.int .i64 (C : Int)) := R4.out.cell 0
    have d4 : w4.cell? ⟨F, 4, none⟩ = some v2 := R4.out.cell 4
    have z4 := R4.out.frozen 4
    have d2 : w4.cell? ⟨F, 2, none⟩ = some (.int .i64 wor) := R4.out.cell 2
    have z2 := R4.out.frozen 2
    have HE2 := Lib.hid (show stepS gs ⟨cnt, lng, wor, fst, bst⟩ bs = ⟨C, M, wo, bs, bs⟩ by rw [HE.out, if_pos (.inl h0), if_pos h0, if_pos (.inl h0)])
    clear HE h0
    go_wp2
    refine bodyPost_ret (results_none rfl _ _ _) rfl ?_
    have R5 : Row ((w4.setCell ⟨F, 4, none⟩ (.slice bo L cap')).setCell ⟨F, 2, none⟩ (.int .i64 wo)) F 86 [.int .i64 (C : Int), .int .i64 (M : Int), .int .i64 wo, .slice bo L cap', .slice bo L cap'] := (R4.out.set 4 (.slice bo L cap')).set 2 (.int .i64 wo)
    have K5 := (K4.out.trans (KF.set F 4 w4 (.slice bo L cap'))).trans (KF.set F 2 (w4.setCell ⟨F, 4, none⟩ (.slice bo L cap')) (.int .i64 wo))
    exact ⟨rfl, K5, by rw [HE2.out]; exact ⟨_, _, R5, K.out.keep K5, K.out.keep K5⟩⟩
  · have q1 : ((C : Int) == 1) = false := by rw [beq_eq_false_iff_ne]; omega
    have d2 : w3.cell? ⟨F, 2, none⟩ = some (.int .i64 wor) := R3.out.cell 2
    by_cases hw : wor < wo
    · have q2 : decide (wor < wo) = true := decide_eq_true hw
      have d4 : w3.cell? ⟨F, 4, none⟩ = some v2 := R3.out.cell 4
      have z4 := R3.out.frozen 4
      have z2 := R3.out.frozen 2
      have HE2 := Lib.hid (show stepS gs ⟨cnt, lng, wor, fst, bst⟩ bs = ⟨C, M, wo, fst, bs⟩ by rw [HE.out, if_pos (.inr hw), if_neg h0, if_pos (.inr hw)])
      clear HE h0 hw
      go_wp2
      refine bodyPost_ret (results_none rfl _ _ _) rfl ?_
      have R5 : Row ((w3.setCell ⟨F, 4, none⟩ (.slice bo L cap')).setCell ⟨F, 2, none⟩ (.int .i64 wo)) F 86 [.int .i64 (C : Int), .int .i64 (M : Int), .int .i64 wo, v1, .slice bo L cap'] := (R3.out.set 4 (.slice bo L cap')).set 2 (.int .i64 wo)
      have K5 := (K3.out.trans (KF.set F 4 w3 (.slice bo L cap'))).trans (KF.set F 2 (w3.setCell ⟨F, 4, none⟩ (.slice bo L cap')) (.int .i64 wo))
      exact ⟨rfl, K5, by rw [HE2.out]; exact ⟨_, _, R5, HF1.out.keep K5, K.out.keep K5⟩⟩
    · have q2 : decide (wor < wo) = false := decide_eq_false hw
      have HE2 := Lib.hid (show stepS gs ⟨cnt, lng, wor, fst, bst⟩ bs = ⟨C, M, wor, fst, bst⟩ by rw [HE.out, if_neg (by omega), if_neg h0, if_neg (by omega)])
      clear HE h0 hw
      go_wp2
      refine bodyPost_ret (results_none rfl _ _ _) rfl ?_
      exact ⟨rfl, K3.out, by rw [HE2.out]; exact ⟨_, _, R3.out, HF1.out.keep K3.out, HF2.out.keep K3.out⟩⟩

set_option maxHeartbeats 8000000 in
theorem search_any (gs : List Int) (hg : dpartB gs = true) : ∀ (n : Nat) (bs : List Int) (g b : Value) (F : Nat) (s : SrS) (w : World), bs.length + n = gs.length → notesB bs = true → keptB gs bs = true → s.cnt + 22 ^ n ≤ 2 ^ 59 → s.lng ≤ 8 → SAt F w s → IntsF F w g gs → IntsF F w b bs →
    Calls Try.prog 88 #[g, b, .pointer (some ⟨F, 0, none⟩)] w fun e w' => e = .returned (.tuple #[]) ∧ KF F w w' ∧ SAt F w' (runS gs s (bs :: begL gs n bs))
  | 0, bs, g, b, F, s, w, hl, hn, hk, hc, hlg, hs, h, k => by
    refine (search_leaf gs hg bs g b F s w (by omega) hn hk (by omega) hlg hs h k).mono ?_
    rintro e w' ⟨h1, h2, h3⟩
    exact ⟨h1, h2, h3⟩
  | n + 1, bs, g, b, F, s, w, hl, hn, hk, hc, hlg, hs, h, k => by
    have g1 := dpart_len hg
    have IH := Lib.hid (fun bs' g' b' s' w' h1 h2 h3 h4 h5 h6 h7 h8 => search_any gs hg n bs' g' b' F s' w' h1 h2 h3 h4 h5 h6 h7 h8)
    have HB := Lib.hid (fun (X : Nat) (hX : X < 21) v W ha hb => RBroken_any gs (bs ++ [(X : Int)]) g v bs.length W g1.2.1 g1.2.2 (notes_more hn hX) (by rw [List.length_append]; simp) (by omega) ha hb)
    have HKe := Lib.hid (fun (X : Nat) (hX : X < 21) h => kept_more (gs := gs) (b := bs) (X := X) hk hn hX h)
    have HHit := Lib.hid (fun (X : Nat) h => begU_hit (gs := gs) (n := n) (b := bs) (X := X) h)
    have HMiss := Lib.hid (fun (X : Nat) h => begU_miss (gs := gs) (n := n) (b := bs) (X := X) h)
    have HAll := Lib.hid (begU_all gs n bs)
    have HBl := Lib.hid (show ∀ x : Int, (bs ++ [x]).length + n = gs.length from fun x => by rw [List.length_append]; simp; omega)
    have HCn := Lib.hid (show ∀ X : Nat, X < 21 → (runS gs s (bs :: begU gs n bs X)).cnt + 22 ^ n ≤ 2 ^ 59 from fun X hX => by
      have e1 := runS_cnt gs (bs :: begU gs n bs X) s
      have e2 := begU_len (gs := gs) (n := n) (b := bs) (X := X)
      have e3 : X * 22 ^ n ≤ 20 * 22 ^ n := Nat.mul_le_mul_right _ (by omega)
      have e4 : 22 ^ (n + 1) = 22 * 22 ^ n := by rw [Nat.pow_succ, Nat.mul_comm]
      have e5 : 0 < 22 ^ n := Nat.pow_pos (by omega)
      rw [List.length_cons] at e1
      omega)
    have HLn := Lib.hid (show ∀ X : Nat, (runS gs s (bs :: begU gs n bs X)).lng ≤ 8 from fun X => runS_lng gs _ s 8 hlg (fun m hm => by
      rcases List.mem_cons.1 hm with rfl | hm
      · omega
      · have := begU_lens m hm; omega))
    have HRu := Lib.hid (show ∀ X : Nat, brokenN gs (bs ++ [(X : Int)]) bs.length = 0 → runS gs (runS gs s (bs :: begU gs n bs X)) ((bs ++ [(X : Int)]) :: begL gs n (bs ++ [(X : Int)])) = runS gs s (bs :: begU gs n bs (X + 1)) from fun X hX => by
      rw [begU_hit hX, ← List.cons_append, runS_append])
    have HRm := Lib.hid (show ∀ X : Nat, brokenN gs (bs ++ [(X : Int)]) bs.length ≠ 0 → runS gs s (bs :: begU gs n bs X) = runS gs s (bs :: begU gs n bs (X + 1)) from fun X hX => by rw [begU_miss hX])
    have HR0 := Lib.hid (show stepS gs s bs = runS gs s (bs :: begU gs n bs 0) from rfl)
    have HR21 := Lib.hid (show runS gs s (bs :: begU gs n bs 21) = runS gs s (bs :: begL gs (n + 1) bs) from rfl)
    have HE := Lib.hid (show stepS gs s bs = { s with lng := max s.lng bs.length } from if_neg (by omega))
    have HIa := Lib.hid (fun (x : Int) (v : Value) (W : World) lo (hF : F < lo) (ho : W.ownsRow lo 3 1 v (bs.length + 1) (ivals bs ++ [.int .i64 x])) => show IntsF F W v (bs ++ [x]) from IntsF.of_own (lo := lo) (by rw [List.length_append, List.map_append]; exact ho) hF)
    obtain ⟨v1, v2, hr, hf1, hf2⟩ := hs
    have H := Lib.hid h
    have K := Lib.hid k
    have hF := hr.lt
    obtain ⟨i0, hi, hz0, hz1, hz2⟩ := info_partsD info_intD
    obtain ⟨ao, cap, hv, _⟩ := h
    obtain ⟨bo, cap', hu, hcap, hbc⟩ := k
    subst hv hu
    have hbs8 : bs.length ≤ 8 := by omega
    have hq : ((bs.length : Int) == (gs.length : Int)) = false := by rw [beq_eq_false_iff_ne]; omega
    have hbl : (ivals bs).length = bs.length := by unfold ivals; rw [List.length_map]
    have HBc := Lib.hid (show ∀ W : World, KF F w W → ∀ ad, bo = some ad → ∀ j u, (ivals bs)[j]? = some u → W.cell? (ad.add j) = some u from fun W hW ad had j u hj => by
      have hjl : j < bs.length := by
        rw [List.getElem?_eq_some_iff] at hj
        obtain ⟨h1, _⟩ := hj
        rw [hbl] at h1; exact h1
      obtain ⟨bb, oo, e, hne, hd⟩ := hbc (by omega)
      rw [had] at e
      cases e
      rw [add_addr]
      have hb1 := World.block_lt_of_cell? w _ (hd j hjl)
      have := (World.cell?_of_block (w := w) (a := ⟨bb, oo + j, none⟩) (hW.2 bb hb1 hne)).trans (hd j hjl)
      rw [this]
      unfold ivals at hj
      rw [List.getElem?_map, List.getElem?_eq_getElem hjl] at hj
      rw [List.getElem?_eq_getElem hjl]
      exact hj)
    have HBn := Lib.hid (show bo = none → bs.length = 0 ∧ bs.length = 0 from fun e => by
      rcases Nat.eq_zero_or_pos bs.length with h0 | h0
      · exact ⟨h0, h0⟩
      · obtain ⟨bb, oo, e2, _⟩ := hbc h0; rw [e] at e2; cases e2)
    have hfl := fun W => run_full' (L := bs.length) (cap := cap') (ao := bo) hcap (fun h0 => by obtain ⟨bb, oo, e, _⟩ := hbc h0; exact ⟨bb, oo, e⟩) W
    have HLnv := Lib.hid hbl
    clear hg g1 hl hn hk hc hcap hbc hbl
    generalize bs.length = L at *
    generalize gs.length = G at *
    generalize hN : begL gs (n + 1) bs = be at *
    clear hN
    generalize hU : begU gs n bs = bu at *
    clear hU
    obtain ⟨cnt, lng, wor, fst, bst⟩ := s
    dsimp only at hr hf1 hf2 HE hlg
    have HF1 := Lib.hid hf1
    have HF2 := Lib.hid hf2
    clear hf1 hf2
    have c1 : w.cell? ⟨F, 1, none⟩ = some (.int .i64 (lng : Int)) := hr.cell 1
    have z1 := hr.frozen 1
    go_enter Try.func88, Try.ntmps88
    go_upto_region 1 with fail
    obtain ⟨M, hM⟩ : ∃ M : Nat, max lng L = M := ⟨_, rfl⟩
    have hMi : max (lng : Int) (L : Int) = (M : Int) := by omega
    rw [hMi]
    rw [hM] at HE
    have r1 : Row (w.setCell ⟨F, 1, none⟩ (.int .i64 (M : Int))) F 86 [.int .i64 (cnt : Int), .int .i64 (M : Int), .int .i64 wor, v1, v2] := hr.set 1 (.int .i64 (M : Int))
    have K1 := Lib.hid (KF.set F 1 w (.int .i64 (M : Int)))
    clear c1 z1 hr hM hMi
    generalize w.setCell ⟨F, 1, none⟩ (.int .i64 (M : Int)) = w1 at *
    have S1 := Lib.hid (show SAt F w1 (runS gs ⟨cnt, lng, wor, fst, bst⟩ (bs :: bu 0)) by rw [← HR0.out, HE.out]; exact ⟨v1, v2, r1, HF1.out.keep K1.out, HF2.out.keep K1.out⟩)
    clear r1
    generalize hs : (⟨cnt, lng, wor, fst, bst⟩ : SrS) = s at *
    have HSe := Lib.hid hs
    clear hs
    go_wp2_with fail
    go_loopw [64] (fun i wr => ∃ X : Nat, X ≤ 21 ∧ i = .int .i64 (X : Int) ∧ KF F w wr ∧ SAt F wr (runS gs s (bs :: bu X))) (fun i _ => 21 - (valK i).toNat)
    case atStart => exact ⟨0, Nat.zero_le _, rfl, K1.out, S1.out⟩
    case round =>
      obtain ⟨X, hX, rfl, hkf, hst⟩ := hrel
      have KW := Lib.hid hkf
      have SW := Lib.hid hst
      clear hkf hst
      by_cases hlt : X < 21
      · have hFw : F < wr.heap.size := Nat.lt_of_lt_of_le hF KW.out.size
        have HBX := Lib.hid (HB.out X hlt)
        have HKX := Lib.hid (HKe.out X hlt)
        have hC := HCn.out X hlt
        have hL := HLn.out X
        have HRX := Lib.hid (HRu.out X)
        have HRY := Lib.hid (HRm.out X)
        have HBX2 := Lib.hid (HBl.out (X : Int))
        have HIX := Lib.hid (HIa.out (X : Int))
        generalize brokenN gs (bs ++ [(X : Int)]) L = br at *
        go_wp2_with (at_builtin; refine wpList_append_grows _ rfl (.tmp 72) (.tmp 74) 22 rfl 3 i0 (.int .i64 0) 1 8 Try.underlying22 hi hz0 hz1 hz2 rfl (by decide) bo L L (ivals bs) rfl HBn.out (by rw [HLnv.out, Nat.mul_one]) (HBc.out _ (KW.out.trans (KF.of_below ((Below.refl wr.heap.size wr).alloc (Nat.le_refl _) _) hFw))) ⟨wr.heap.size, 0, none⟩ 1 1 [.int .i64 (X : Int)] rfl rfl (cell_one_new _ _ _) (by simp [Value.oneCell']) (by omega) (by unfold maxLen; omega) (by omega) ?_; intro v' w4 hown hgrow; have HOW := Lib.hid hown; have HB4 := Lib.hid (((Below.refl wr.heap.size wr).alloc (Nat.le_refl _) (.cells #[.int .i64 (X : Int)] 3)).grown hgrow (by rw [World.size_alloc]; exact Nat.le_succ _) (fun k e => by cases e)); clear hown hgrow)
        have V4 := Lib.hid (HIX.out v' w4 _ (by rw [World.size_alloc]; omega) HOW.out)
        have K4 := Lib.hid (KW.out.trans (KF.of_below HB4.out hFw))
        have S4 := Lib.hid (SW.out.keep HB4.out)
        have hF4 : F < w4.heap.size := Nat.lt_of_lt_of_le hF K4.out.size
        clear HOW HB4 KW SW
        refine (HBX.out _ _ (H.out.keep K4.out).ints V4.out.ints).mono ?_
        rintro e w5 ⟨rfl, q, rfl⟩
        have hb5 := below_drewN (Below.refl w4.heap.size w4) q
        have K5 := Lib.hid (K4.out.trans (KF.of_below hb5 hF4))
        have S5 := Lib.hid (S4.out.keep hb5)
        have V5 := Lib.hid (V4.out.keep (KF.of_below hb5 hF4))
        clear hb5 K4 S4 V4
        obtain ⟨w5, hw5⟩ : ∃ W, w4.drewN q = W := ⟨_, rfl⟩
        rw [hw5] at K5 S5 V5 ⊢
        clear hw5
        by_cases hz : br = 0
        · have q1 : ((br : Int) == 0) = true := by rw [hz]; rfl
          obtain ⟨hk1, hk2⟩ := HKX.out hz
          have HIH := Lib.hid (IH.out (bs ++ [(X : Int)]) _ _ _ _ HBX2.out hk2 hk1 hC hL S5.out (H.out.keep K5.out) V5.out)
          rw [HRX.out hz] at HIH
          clear hk1 hk2 hz
          go_wp2_with fail
          refine HIH.out.mono ?_
          rintro e w6 ⟨rfl, k6, s6⟩
          have K6 := Lib.hid (K5.out.trans k6)
          have S6 := Lib.hid s6
          clear k6 s6
          go_wp2
          go_roundw
          case rel => exact ⟨X + 1, by omega, by go_num, K6.out, S6.out⟩
          case measure => simp only [valK]; omega
        · have q1 : ((br : Int) == 0) = false := by rw [beq_eq_false_iff_ne]; omega
          have S6 := Lib.hid S5.out
          rw [HRY.out hz] at S6
          clear hz
          go_wp2
          go_roundw
          case rel => exact ⟨X + 1, by omega, by go_num, K5.out, S6.out⟩
          case measure => simp only [valK]; omega
      · obtain rfl : X = 21 := by omega
        rw [HR21.out] at SW
        go_wp2
        go_end0
        exact ⟨rfl, KW.out, by rw [HSe.out]; exact SW.out⟩
end

end Go.Proofs.Ytlmfmfbnbbooaaa
