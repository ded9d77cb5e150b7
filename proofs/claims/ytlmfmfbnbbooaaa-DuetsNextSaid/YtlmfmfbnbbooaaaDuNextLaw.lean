/-
  The reference's Next; the statement on the next notes.
-/
import Derived.Test.YtlmfmfbnbbooaaaDuCountsLaw
namespace Go.Proofs.Ytlmfmfbnbbooaaa
open Go.ChangeShapes Go.WideShapes Go.ChangeAt Go.RowKit
set_option linter.unusedVariables false
set_option maxRecDepth 100000

theorem own_laterD {W W' : World} {base : Nat} {e : TypeId} {size n : Nat} {v : Value} {xs : List Value} (h : W.ownsRow base e size v n xs) (hb : Below W.heap.size W W') : W'.ownsRow base e size v n xs := by
  obtain ⟨h0, h | ⟨g, cap, cur, h1, h2, h3, h4⟩⟩ := h
  · exact ⟨h0, .inl h⟩
  · exact ⟨h0, .inr ⟨g, cap, cur, h1, h2, (hb.block g (Array.getElem?_eq_some_iff.1 h3).1).trans h3, h4⟩⟩
/-- How many first notes keep the rules. -/
def keptN (gs ss : List Int) : Nat := (((List.range ss.length).find? fun i => decide (faultN gs ss i ≠ 0))).getD ss.length
theorem kept_cases (gs ss : List Int) : ((∀ i, i < ss.length → brokenN gs ss i = 0) ∧ keptB gs ss = true) ∨ ∃ i0 : Nat, i0 < ss.length ∧ (∀ i, i < i0 → brokenN gs ss i = 0) ∧ brokenN gs ss i0 ≠ 0 ∧ keptB gs ss = false := by
  rcases check_cases gs ss with ⟨h1, h2, _⟩ | ⟨i, h1, h2, h3, h4, _⟩
  · exact .inl ⟨h1, h2⟩
  · exact .inr ⟨i, h1, h2, h3, h4⟩
set_option maxHeartbeats 2000000 in
theorem RKept_any (gs ss : List Int) (g s : Value) (w : World) (hg : dpartB gs = true) (hn : notesB ss = true) (hle : ss.length ≤ gs.length) (h : IntsV w g gs) (k : IntsV w s ss) :
    Calls Try.prog 95 #[g, s] w fun e w' => (∃ n : Nat, e = .returned (.int .i64 (n : Int)) ∧ n ≤ ss.length ∧ (n = ss.length ↔ keptB gs ss = true)) ∧ ∃ q, w' = w.drewN q := by
  have g1 := dpart_len hg
  have HB := Lib.hid (fun i (hi : i < ss.length) W hW hV => RBroken_any gs ss g s i W g1.2.1 g1.2.2 hn hi (by omega) hW hV)
  have H := Lib.hid h
  have K := Lib.hid k
  have g8 := g1.2.1
  obtain ⟨ao, cap, hv, _⟩ := h
  obtain ⟨bo, cap', hu, _⟩ := k
  subst hv hu
  rcases kept_cases gs ss with ⟨hz, hk⟩ | ⟨i0, hi0, hz, hnz, hk⟩
  · have HZ := Lib.hid hz
    rw [hk]
    clear hg hn hz hk g1
    generalize gs.length = G at *
    generalize ss.length = L at *
    go_enter Try.func95, Try.ntmps95
    go_wp2_with fail
    go_loopw [8] (fun i wr => ∃ j q : Nat, j ≤ L ∧ i = .int .i64 (j : Int) ∧ wr = w.drewN q) (fun i _ => L - (valK i).toNat)
    case atStart => exact ⟨0, 0, Nat.zero_le _, rfl, rfl⟩
    case round =>
      obtain ⟨j, q, hj, rfl, rfl⟩ := hrel
      by_cases hlt : j < L
      · have C := Lib.hid (HB.out j hlt (w.drewN q) (H.out.drewN q) (K.out.drewN q))
        rw [HZ.out j hlt] at C
        go_wp2_with fail
        refine C.out.mono ?_
        rintro e w1 ⟨rfl, q1, rfl⟩
        go_wp2
        go_roundw
        case rel => exact ⟨j + 1, q + q1, by omega, by go_num, by first | rfl | simp only [World.drewN_drewN]⟩
        case measure => simp only [valK]; omega
      · obtain rfl : j = L := by omega
        go_wp2
        go_ret
        exact ⟨⟨j, rfl, Nat.le_refl _, by simp⟩, q, rfl⟩
  · have HZ := Lib.hid hz
    have HI := Lib.hid (HB.out i0 hi0)
    have hpos : 0 < brokenN gs ss i0 := by omega
    have hle8 := broken_le gs ss i0
    rw [hk]
    clear hg hn hz hk g1 hnz
    generalize hR : brokenN gs ss i0 = R at *
    clear hR
    generalize gs.length = G at *
    generalize ss.length = L at *
    have q1 : decide ((0 : Int) < (R : Int)) = true := decide_eq_true (by omega)
    go_enter Try.func95, Try.ntmps95
    go_wp2_with fail
    go_loopw [8] (fun i wr => ∃ j q : Nat, j ≤ i0 ∧ i = .int .i64 (j : Int) ∧ wr = w.drewN q) (fun i _ => L - (valK i).toNat)
    case atStart => exact ⟨0, 0, Nat.zero_le _, rfl, rfl⟩
    case round =>
      obtain ⟨j, q, hj, rfl, rfl⟩ := hrel
      have hjL : j < L := by omega
      by_cases hlt : j < i0
      · have C := Lib.hid (HB.out j hjL (w.drewN q) (H.out.drewN q) (K.out.drewN q))
        rw [HZ.out j hlt] at C
        go_wp2_with fail
        refine C.out.mono ?_
        rintro e w1 ⟨rfl, q1, rfl⟩
        go_wp2
        go_roundw
        case rel => exact ⟨j + 1, q + q1, by omega, by go_num, by first | rfl | simp only [World.drewN_drewN]⟩
        case measure => simp only [valK]; omega
      · obtain rfl : j = i0 := by omega
        have C := Lib.hid (HI.out (w.drewN q) (H.out.drewN q) (K.out.drewN q))
        go_wp2_with fail
        refine C.out.mono ?_
        rintro e w1 ⟨rfl, q1, rfl⟩
        go_wp2
        go_ret
        exact ⟨⟨j, rfl, by omega, by simp; omega⟩, q + q1, by first | rfl | simp only [World.drewN_drewN]⟩
/-- The next notes below a number. -/
def nextU (gs b : List Int) (X : Nat) : List Int := ((List.range X).filter fun (x : Nat) => decide (faultN gs (b ++ [(x : Int)]) b.length = 0)).map fun (x : Nat) => (x : Int)
theorem nextU_hit {gs b : List Int} {X : Nat} (h : faultN gs (b ++ [(X : Int)]) b.length = 0) : nextU gs b (X + 1) = nextU gs b X ++ [(X : Int)] := by
  unfold nextU
  rw [List.range_succ, List.filter_append, List.filter_cons_of_pos (by rw [decide_eq_true_eq]; exact h), List.map_append]
  rfl
theorem nextU_miss {gs b : List Int} {X : Nat} (h : faultN gs (b ++ [(X : Int)]) b.length ≠ 0) : nextU gs b (X + 1) = nextU gs b X := by
  unfold nextU
  rw [List.range_succ, List.filter_append, List.filter_cons_of_neg (by rw [decide_eq_true_eq]; exact h)]
  simp
theorem nextU_len (gs b : List Int) (X : Nat) : (nextU gs b X).length ≤ X := by
  unfold nextU
  rw [List.length_map]
  refine Nat.le_trans (List.length_filter_le _ _) ?_
  rw [List.length_range]; exact Nat.le_refl _
theorem kept_snoc {gs b : List Int} {X : Nat} (hk : keptB gs b = true) : keptB gs (b ++ [(X : Int)]) = true ↔ faultN gs (b ++ [(X : Int)]) b.length = 0 := by
  rw [kept_iff]
  constructor
  · intro h; exact h b.length (by rw [List.length_append]; simp)
  · intro h i hi
    rw [List.length_append] at hi
    simp only [List.length_cons, List.length_nil] at hi
    by_cases e : i = b.length
    · rw [e]; exact h
    · rw [fault_pre gs b [(X : Int)] [] (by omega), List.append_nil]
      exact (kept_iff _ _).1 hk i (by omega)

set_option maxHeartbeats 8000000 in
theorem RNext_any (gs bs : List Int) (g b : Value) (w : World) (hg : dpartB gs = true) (hn : notesB bs = true) (hlt : bs.length < gs.length) (h : IntsV w g gs) (k : IntsV w b bs) :
    Calls Try.prog 56 #[g, b] w fun e w' => ∃ v, e = .returned v ∧ IntsV w' v (if keptB gs bs = true then nextI gs bs else []) ∧ Below w.heap.size w w' := by
  have g1 := dpart_len hg
  have HK := Lib.hid (fun W ha hb => RKept_any gs bs g b W hg hn (by omega) ha hb)
  have HK2 := Lib.hid (fun (X : Nat) (hX : X < 21) v W ha hb => RKept_any gs (bs ++ [(X : Int)]) g v W hg (notes_more hn hX) (by rw [List.length_append]; simp; omega) ha hb)
  have H := Lib.hid h
  have K := Lib.hid k
  have g8 := g1.2.1
  obtain ⟨i0, hi, hz0, hz1, hz2⟩ := info_partsD info_intD
  obtain ⟨ao, cap, hv, _⟩ := h
  obtain ⟨bo, cap', hu, hcap, hbc⟩ := k
  subst hv hu
  cases hk : keptB gs bs
  · rw [if_neg (by simp)]
    rw [hk] at HK
    clear hg hn g1 hk hbc hcap
    generalize gs.length = G at *
    generalize bs.length = L at *
    go_enter Try.func56, Try.ntmps56
    go_wp2_with fail
    refine (HK.out _ H.out K.out).mono ?_
    rintro e w1 ⟨⟨n, rfl, hn1, hn2⟩, q, rfl⟩
    have hne : ¬ n = L := fun e => by have := hn2.1 e; cases this
    have hltn : n < L := by omega
    have q1 : decide ((n : Int) < (L : Int)) = true := decide_eq_true (by omega)
    clear hn2 hne hn1
    go_wp2
    go_ret
    exact ⟨_, rfl, IntsV.nilD _, below_drewN (Below.refl _ _) q⟩
  · rw [if_pos rfl]
    rw [hk] at HK
    have HHit := Lib.hid (fun (X : Nat) h => nextU_hit (gs := gs) (b := bs) (X := X) h)
    have HMiss := Lib.hid (fun (X : Nat) h => nextU_miss (gs := gs) (b := bs) (X := X) h)
    have HLe := Lib.hid (fun X => nextU_len gs bs X)
    have HSn := Lib.hid (fun X => kept_snoc (gs := gs) (b := bs) (X := X) hk)
    have HAll := Lib.hid (show nextU gs bs 21 = nextI gs bs from rfl)
    have HBl := Lib.hid (show ∀ x : Int, (bs ++ [x]).length = bs.length + 1 from fun x => by rw [List.length_append]; simp)
    have hbl : (ivals bs).length = bs.length := by unfold ivals; rw [List.length_map]
    have HBc := Lib.hid (show ∀ W : World, Below w.heap.size w W → ∀ ad, bo = some ad → ∀ j u, (ivals bs)[j]? = some u → W.cell? (ad.add j) = some u from fun W hW ad had j u hj => by
      have hjl : j < bs.length := by
        rw [List.getElem?_eq_some_iff] at hj
        obtain ⟨h1, _⟩ := hj
        rw [hbl] at h1; exact h1
      obtain ⟨bb, oo, e, hd⟩ := hbc (by omega)
      rw [had] at e
      cases e
      rw [add_addr]
      have := cell_later hW (hd j hjl)
      rw [this]
      unfold ivals at hj
      rw [List.getElem?_map, List.getElem?_eq_getElem hjl] at hj
      rw [List.getElem?_eq_getElem hjl]
      exact hj)
    have HBn := Lib.hid (show bo = none → bs.length = 0 ∧ bs.length = 0 from fun e => by
      rcases Nat.eq_zero_or_pos bs.length with h0 | h0
      · exact ⟨h0, h0⟩
      · obtain ⟨bb, oo, e2, _⟩ := hbc h0; rw [e] at e2; cases e2)
    have HIa := Lib.hid (fun (x : Int) (v : Value) (W : World) lo (ho : W.ownsRow lo 3 1 v (bs.length + 1) (ivals bs ++ [.int .i64 x])) => show IntsV W v (bs ++ [x]) from IntsV.of_own (lo := lo) (by rw [List.length_append, List.map_append]; exact ho))
    have hfl := fun W => run_full' (L := bs.length) (cap := cap') (ao := bo) hcap (fun h0 => by obtain ⟨bb, oo, e, _⟩ := hbc h0; exact ⟨bb, oo, e⟩) W
    have HLn := Lib.hid hbl
    clear hg hn hk hcap hbc hbl g1
    generalize gs.length = G at *
    generalize bs.length = L at *
    go_enter Try.func56, Try.ntmps56
    go_wp2_with fail
    refine (HK.out _ H.out K.out).mono ?_
    rintro e w1 ⟨⟨n, rfl, hn1, hn2⟩, q, rfl⟩
    obtain rfl : n = L := hn2.2 (by first | trivial | rfl)
    have q1 : decide ((n : Int) < (n : Int)) = false := decide_eq_false (by omega)
    clear hn2 hn1
    obtain ⟨B, hB⟩ : ∃ B, w.heap.size = B := ⟨_, rfl⟩
    have HB := Lib.hid hB
    have hb1 : Below w.heap.size w (w.drewN q) := below_drewN (Below.refl _ _) q
    generalize w.drewN q = w1 at *
    go_wp2_with fail
    go_loopw [14, 5] (fun i o wr => ∃ X : Nat, X ≤ 21 ∧ i = .int .i64 (X : Int) ∧ wr.ownsRow B 3 1 o (nextU gs bs X).length (ivals (nextU gs bs X)) ∧ Below B w wr) (fun i _ _ => 21 - (valK i).toNat)
    case atStart => exact ⟨0, Nat.zero_le _, rfl, World.ownsRow_nil _ _ _ _, by rw [← HB.out]; exact hb1⟩
    case round =>
      obtain ⟨X, hX, rfl, hown, hb⟩ := hrel
      have HO := Lib.hid hown
      have HBe := Lib.hid hb
      have hsz : B ≤ wr.heap.size := by have h1 := hb.size; have h2 := HB.out; omega
      clear hown hb
      by_cases hlx : X < 21
      · have HBw := Lib.hid (show Below w.heap.size w wr by rw [HB.out]; exact HBe.out)
        have HIX := Lib.hid (HIa.out (X : Int))
        have HKX := Lib.hid (HK2.out X hlx)
        have HSX := Lib.hid (HSn.out X)
        have HBX := Lib.hid (HBl.out (X : Int))
        have HHX := Lib.hid (HHit.out X)
        have HMX := Lib.hid (HMiss.out X)
        have hle := HLe.out X
        generalize nextU gs bs X = nu at *
        go_wp2_with (at_builtin; refine wpList_append_grows _ rfl (.tmp 22) (.tmp 24) 22 rfl 3 i0 (.int .i64 0) 1 8 Try.underlying22 hi hz0 hz1 hz2 rfl (by decide) bo n n (ivals bs) rfl HBn.out (by rw [HLn.out, Nat.mul_one]) (HBc.out _ (HBw.out.alloc HBw.out.size _)) ⟨wr.heap.size, 0, none⟩ 1 1 [.int .i64 (X : Int)] rfl rfl (cell_one_new _ _ _) (by simp [Value.oneCell']) (by omega) (by unfold maxLen; omega) (by omega) ?_; intro v' w4 hown hgrow; have HOW := Lib.hid hown; have HB4 := Lib.hid (((Below.refl wr.heap.size wr).alloc (Nat.le_refl _) (.cells #[.int .i64 (X : Int)] 3)).grown hgrow (by rw [World.size_alloc]; exact Nat.le_succ _) (fun k e => by cases e)); clear hown hgrow)
        have V4 := Lib.hid (HIX.out v' w4 _ HOW.out)
        have O4 := Lib.hid (own_laterD HO.out HB4.out)
        have B4 := Lib.hid (HBe.out.trans (HB4.out.mono hsz))
        obtain ⟨na, nc, rfl⟩ := own_formD HOW.out
        have BW4 := Lib.hid (below_nx HBw.out HB4.out)
        clear HOW HO HBe HB4
        refine (HKX.out _ _ (H.out.later BW4.out) V4.out).mono ?_
        rintro e w5 ⟨⟨m, rfl, hn1, hn2⟩, q5, rfl⟩
        rw [HBX.out] at hn1 hn2
        have hb5 := below_drewN (Below.refl w4.heap.size w4) q5
        have O5 := Lib.hid (own_laterD O4.out hb5)
        have hsz4 : B ≤ w4.heap.size := by have h1 := B4.out.size; have h2 := HB.out; omega
        have B5 := Lib.hid (B4.out.trans (hb5.mono hsz4))
        clear hb5 O4 V4
        obtain ⟨w5, hw5⟩ : ∃ W, w4.drewN q5 = W := ⟨_, rfl⟩
        rw [hw5] at O5 B5 ⊢
        clear hw5
        have hsz5 : B ≤ w5.heap.size := by have h1 := B5.out.size; have h2 := HB.out; omega
        by_cases hnn : m = n + 1
        · have q1 : ((m : Int) == ((n + 1 : Nat) : Int)) = true := by rw [beq_iff_eq]; omega
          have q1' : ((m : Int) == (n : Int) + 1) = true := by rw [beq_iff_eq]; omega
          have HN := Lib.hid (HHX.out (HSX.out.1 (hn2.1 hnn)))
          clear hn2 hnn
          go_wp2_with (at_builtin; refine wpList_append_own_at _ rfl _ _ 22 rfl B 3 i0 (.int .i64 0) 1 8 Try.underlying22 hi hz0 hz1 hz2 rfl (by decide) _ _ _ rfl (O5.out.alloc _) ⟨w5.heap.size, 0, none⟩ 1 1 [.int .i64 (X : Int)] rfl rfl (cell_one_new _ _ _) (by simp [Value.oneCell']) (by unfold maxLen; omega) (by omega) (by simp; omega) ?_; intro v2 w6 hown' hgrow _ hob; obtain ⟨g', cap2, rfl⟩ := ownsRow_succ hown'; have HOW := Lib.hid hown'; have HB2 := Lib.hid ((B5.out.alloc hsz5 _).grown hgrow (Nat.le_trans hsz5 (by rw [World.size_alloc]; exact Nat.le_succ _)) (fun k e => (O5.out.lt k e).1)); clear hown' hgrow hob)
          go_roundw
          case rel => exact ⟨X + 1, by omega, by go_num, by rw [HN.out]; unfold ivals at *; rw [List.length_append, List.map_append]; exact HOW.out, HB2.out⟩
          case measure => simp only [valK]; omega
        · have q1 : ((m : Int) == ((n + 1 : Nat) : Int)) = false := by rw [beq_eq_false_iff_ne]; omega
          have q1' : ((m : Int) == (n : Int) + 1) = false := by rw [beq_eq_false_iff_ne]; omega
          have HN := Lib.hid (HMX.out (fun e => hnn (hn2.2 (HSX.out.2 e))))
          clear hn2 hnn
          go_wp2
          go_roundw
          case rel => exact ⟨X + 1, by omega, by go_num, by rw [HN.out]; exact O5.out, B5.out⟩
          case measure => simp only [valK]; omega
      · obtain rfl : X = 21 := by omega
        have HI := Lib.hid (IntsV.of_own HO.out)
        rw [HAll.out] at HI
        obtain ⟨oa, oc, rfl⟩ := own_formD HO.out
        go_wp2
        go_ret
        exact ⟨_, rfl, HI.out, by rw [HB.out]; exact HBe.out⟩

set_option maxHeartbeats 4000000 in
theorem DuetsNext_walk (gs ss : List Int) (g s : Value) (w : World) (hl : gs.length ≤ maxLen) (h : IntsV w g gs) (hm : ss.length ≤ maxLen) (k : IntsV w s ss) :
    Calls Try.prog 11 #[g, s] w fun e w' => e = .returned (.bool true) ∧ Below w.heap.size w w' := by
  have HAw := Lib.hid (fun W => dawake_any W)
  have HLg := Lib.hid (fun W hW => dlist_any gs g W hl hW)
  have HLs := Lib.hid (fun W hW => dlist_any ss s W hm hW)
  have HPr := Lib.hid (fun W a => RPartD_any gs g W hl a)
  have HNo := Lib.hid (fun W a => RNotes_any ss s W hm a)
  have H := Lib.hid h
  have K := Lib.hid k
  have HE := Lib.hid (fun (zs : List Int) (hz : zs.length ≤ maxLen) a b W ha hb => by have := Equal_any zs zs a b W hz hz ha hb; rwa [show (zs == zs) = true from beq_self_eq_true _] at this)
  cases hg : dpartB gs
  · have HN := Lib.hid (fun a c W ha hc => Next_bad (gs.take 11) (ss.take 11) a c W take11 take11 (.inl (by rw [dpart_take]; exact hg)) ha hc)
    have HSt := Lib.hid (fun a W ha => Stuck_bad (gs.take 11) a W take11 (by rw [dpart_take]; exact hg) ha)
    rw [hg] at HPr
    obtain ⟨ao, cap, hv, _⟩ := h
    obtain ⟨bo, cap', hu, _⟩ := k
    subst hv hu
    clear hg hl hm
    go_enter Try.func11, Try.ntmps11
    go_wp2_with fail
    refine (HLg.out _ H.out).mono ?_
    rintro e u1 ⟨v1, rfl, i1, b1⟩
    have G_1 := Lib.hid i1
    have B1 := Lib.hid (b1)
    clear b1 i1
    go_wp2_with fail
    refine (HLs.out _ (K.out.later B1.out)).mono ?_
    rintro e u2 ⟨v2, rfl, i2, b2⟩
    have G_2 := Lib.hid (G_1.out.later b2)
    have S_2 := Lib.hid i2
    have B2 := Lib.hid (below_nx B1.out b2)
    clear b2 i2
    go_wp2_with fail
    refine (HN.out _ _ _ G_2.out S_2.out).mono ?_
    rintro e u3 ⟨rfl, b3⟩
    have G_3 := Lib.hid (G_2.out.later b3)
    have S_3 := Lib.hid (S_2.out.later b3)
    have B3 := Lib.hid (below_nx B2.out b3)
    clear b3
    go_wp2_with fail
    refine (HLg.out _ (H.out.later B3.out)).mono ?_
    rintro e u4 ⟨v4, rfl, i4, b4⟩
    have G_4 := Lib.hid i4
    have B4 := Lib.hid (below_nx B3.out b4)
    clear b4 i4
    go_wp2_with fail
    refine (HSt.out _ _ G_4.out).mono ?_
    rintro e u5 ⟨rfl, b5⟩
    have G_5 := Lib.hid (G_4.out.later b5)
    have B5 := Lib.hid (below_nx B4.out b5)
    clear b5
    go_wp2_with fail
    refine (HPr.out _ (H.out.later B5.out)).mono ?_
    rintro e u6 ⟨rfl, rfl⟩
    go_wp2_with fail
    refine (HAw.out _).mono ?_
    rintro e uz ⟨rfl, bz⟩
    go_wp2
    go_ret
    exact ⟨rfl, below_nx B5.out bz⟩
  · have g1 := dpart_len hg
    rw [hg] at HPr
    rw [dtake hg] at HLg
    have HSt := Lib.hid (fun a W ha => Stuck_ok gs a W hg ha)
    have HRS := Lib.hid (fun W a => RStuck_any gs g W hg a)
    obtain ⟨a0, c0, hst⟩ : ∃ a0 c0 : Int, ∀ a c : Int, ((rightL gs = [] ∧ a = (mostL (begL gs gs.length []) : Nat) ∧ c = 0) ∨ (rightL gs ≠ [] ∧ a = 0 ∧ c = 4)) ↔ (a = a0 ∧ c = c0) := by
      by_cases hr : rightL gs = []
      · exact ⟨_, _, fun a c => ⟨fun h => by rcases h with ⟨_, h2, h3⟩ | ⟨h1, _⟩; exact ⟨h2, h3⟩; exact absurd hr h1, fun h => .inl ⟨hr, h.1, h.2⟩⟩⟩
      · exact ⟨_, _, fun a c => ⟨fun h => by rcases h with ⟨h1, _⟩ | ⟨_, h2, h3⟩; exact absurd h1 hr; exact ⟨h2, h3⟩, fun h => .inr ⟨hr, h.1, h.2⟩⟩⟩
    have HSt2 := Lib.hid (fun a W ha => (HSt.out a W ha).mono (fun e w' h => show e = .returned (.tuple #[.int .i64 a0, .int .i64 c0]) ∧ Below W.heap.size W w' from by
      obtain ⟨x, c, e1, h1, h2⟩ := h
      obtain ⟨rfl, rfl⟩ := (hst x c).1 h1
      exact ⟨e1, h2⟩))
    have HRS2 := Lib.hid (fun W a => (HRS.out W a).mono (fun e w' h => show e = .returned (.tuple #[.int .i64 a0, .int .i64 c0]) ∧ Below W.heap.size W w' from by
      obtain ⟨h1, h2⟩ := h
      rcases h1 with ⟨hr, e1⟩ | ⟨hr, e1⟩
      · obtain ⟨rfl, rfl⟩ := (hst _ _).1 (.inl ⟨hr, rfl, rfl⟩); exact ⟨e1, h2⟩
      · obtain ⟨rfl, rfl⟩ := (hst _ _).1 (.inr ⟨hr, rfl, rfl⟩); exact ⟨e1, h2⟩))
    clear HSt HRS hst
    have qa : (a0 != a0) = false := by rw [bne_eq_false_iff_eq]
    have qc : (c0 != c0) = false := by rw [bne_eq_false_iff_eq]
    cases hn : notesB ss
    · have hnt : notesB (ss.take 11) = false ∨ gs.length ≤ (ss.take 11).length := by
        by_cases h9 : ss.length ≤ 11
        · left; rw [List.take_of_length_le h9]; exact hn
        · right; rw [List.length_take]; omega
      have HN := Lib.hid (fun a c W ha hc => Next_bad gs (ss.take 11) a c W hl take11 (by rcases hnt with h | h; exact .inr (.inl h); exact .inr (.inr h)) ha hc)
      rw [hn, Bool.false_and] at HNo
      obtain ⟨ao, cap, hv, _⟩ := h
      obtain ⟨bo, cap', hu, _⟩ := k
      subst hv hu
      clear hg hl hm g1 hn hnt
      go_enter Try.func11, Try.ntmps11
      go_wp2_with fail
      refine (HLg.out _ H.out).mono ?_
      rintro e u1 ⟨v1, rfl, i1, b1⟩
      have G_1 := Lib.hid i1
      have B1 := Lib.hid (b1)
      clear b1 i1
      go_wp2_with fail
      refine (HLs.out _ (K.out.later B1.out)).mono ?_
      rintro e u2 ⟨v2, rfl, i2, b2⟩
      have G_2 := Lib.hid (G_1.out.later b2)
      have S_2 := Lib.hid i2
      have B2 := Lib.hid (below_nx B1.out b2)
      clear b2 i2
      go_wp2_with fail
      refine (HN.out _ _ _ G_2.out S_2.out).mono ?_
      rintro e u3 ⟨rfl, b3⟩
      have G_3 := Lib.hid (G_2.out.later b3)
      have S_3 := Lib.hid (S_2.out.later b3)
      have B3 := Lib.hid (below_nx B2.out b3)
      clear b3
      go_wp2_with fail
      refine (HLg.out _ (H.out.later B3.out)).mono ?_
      rintro e u4 ⟨v4, rfl, i4, b4⟩
      have G_4 := Lib.hid i4
      have B4 := Lib.hid (below_nx B3.out b4)
      clear b4 i4
      go_wp2_with fail
      refine (HSt2.out _ _ G_4.out).mono ?_
      rintro e u5 ⟨rfl, b5⟩
      have G_5 := Lib.hid (G_4.out.later b5)
      have B5 := Lib.hid (below_nx B4.out b5)
      clear b5
      go_wp2_with fail
      refine (HPr.out _ (H.out.later B5.out)).mono ?_
      rintro e u6 ⟨rfl, rfl⟩
      go_wp2_with fail
      refine (HRS2.out _ (H.out.later B5.out)).mono ?_
      rintro e u7 ⟨rfl, b7⟩
      have B7 := Lib.hid (below_nx B5.out b7)
      clear b7
      go_wp2_with fail
      refine (HAw.out _).mono ?_
      rintro e u8 ⟨rfl, b8⟩
      have B8 := Lib.hid (below_nx B7.out b8)
      clear b8
      go_wp2_with fail
      refine (HNo.out _ (K.out.later B8.out)).mono ?_
      rintro e u9 ⟨rfl, rfl⟩
      go_wp2
      go_ret
      exact ⟨rfl, B8.out⟩
    · by_cases hlt : ss.length < gs.length
      · rw [show ss.take 11 = ss from List.take_of_length_le (by omega)] at HLs
        have HRN := Lib.hid (fun W a c => RNext_any gs ss g s W hg hn hlt a c)
        have q3 : decide ((gs.length : Int) ≤ (ss.length : Int)) = false := decide_eq_false (by omega)
        rw [hn, decide_eq_true (show ss.length ≤ 8 by omega), Bool.and_self] at HNo
        cases hk : keptB gs ss
        · have HN := Lib.hid (fun a c W ha hc => Next_none gs ss a c W hg hn hlt hk ha hc)
          rw [hk, if_neg (by simp)] at HRN
          obtain ⟨ao, cap, hv, _⟩ := h
          obtain ⟨bo, cap', hu, _⟩ := k
          subst hv hu
          clear hg hl hm g1 hn hk
          generalize gs.length = G at *
          generalize ss.length = L at *
          go_enter Try.func11, Try.ntmps11
          go_wp2_with fail
          refine (HLg.out _ H.out).mono ?_
          rintro e u1 ⟨v1, rfl, i1, b1⟩
          have G_1 := Lib.hid i1
          have B1 := Lib.hid (b1)
          clear b1 i1
          go_wp2_with fail
          refine (HLs.out _ (K.out.later B1.out)).mono ?_
          rintro e u2 ⟨v2, rfl, i2, b2⟩
          have G_2 := Lib.hid (G_1.out.later b2)
          have S_2 := Lib.hid i2
          have B2 := Lib.hid (below_nx B1.out b2)
          clear b2 i2
          go_wp2_with fail
          refine (HN.out _ _ _ G_2.out S_2.out).mono ?_
          rintro e u3 ⟨rfl, b3⟩
          have G_3 := Lib.hid (G_2.out.later b3)
          have S_3 := Lib.hid (S_2.out.later b3)
          have B3 := Lib.hid (below_nx B2.out b3)
          clear b3
          go_wp2_with fail
          refine (HLg.out _ (H.out.later B3.out)).mono ?_
          rintro e u4 ⟨v4, rfl, i4, b4⟩
          have G_4 := Lib.hid i4
          have B4 := Lib.hid (below_nx B3.out b4)
          clear b4 i4
          go_wp2_with fail
          refine (HSt2.out _ _ G_4.out).mono ?_
          rintro e u5 ⟨rfl, b5⟩
          have G_5 := Lib.hid (G_4.out.later b5)
          have B5 := Lib.hid (below_nx B4.out b5)
          clear b5
          go_wp2_with fail
          refine (HPr.out _ (H.out.later B5.out)).mono ?_
          rintro e u6 ⟨rfl, rfl⟩
          go_wp2_with fail
          refine (HRS2.out _ (H.out.later B5.out)).mono ?_
          rintro e u7 ⟨rfl, b7⟩
          have B7 := Lib.hid (below_nx B5.out b7)
          clear b7
          go_wp2_with fail
          refine (HAw.out _).mono ?_
          rintro e u8 ⟨rfl, b8⟩
          have B8 := Lib.hid (below_nx B7.out b8)
          clear b8
          go_wp2_with fail
          refine (HNo.out _ (K.out.later B8.out)).mono ?_
          rintro e u9 ⟨rfl, rfl⟩
          go_wp2_with fail
          refine (HRN.out _ (H.out.later B8.out) (K.out.later B8.out)).mono ?_
          rintro e u10 ⟨v10, rfl, i10, b10⟩
          have Y_10 := Lib.hid i10
          have B10 := Lib.hid (below_nx B8.out b10)
          clear b10 i10
          go_wp2_with fail
          refine (HE.out [] (by simp) _ _ _ (IntsV.nilD _) Y_10.out).mono ?_
          rintro e u11 ⟨rfl, q11, rfl⟩
          obtain ⟨x11, hx11⟩ : ∃ W, u10.drewN q11 = W := ⟨_, rfl⟩
          have hb11 := below_drewN (Below.refl u10.heap.size u10) q11
          rw [hx11] at hb11 ⊢
          have Y_11 := Lib.hid (Y_10.out.later hb11)
          have B11 := Lib.hid (below_nx B10.out hb11)
          clear hb11 hx11
          go_wp2
          go_ret
          exact ⟨rfl, B11.out⟩
        · have HN := Lib.hid (fun a c W ha hc => Next_ok gs ss a c W hg hn hlt hk ha hc)
          have HNl := Lib.hid (show ((nextL gs ss).map fun (x : Nat) => (x : Int)) = nextI gs ss from rfl)
          rw [HNl.out] at HN
          have HZ := Lib.hid (show (nextI gs ss).length ≤ maxLen by have := next_len gs ss; unfold maxLen; omega)
          rw [hk, if_pos rfl] at HRN
          obtain ⟨ao, cap, hv, _⟩ := h
          obtain ⟨bo, cap', hu, _⟩ := k
          subst hv hu
          clear hg hl hm g1 hn hk HNl
          generalize gs.length = G at *
          generalize ss.length = L at *
          go_enter Try.func11, Try.ntmps11
          go_wp2_with fail
          refine (HLg.out _ H.out).mono ?_
          rintro e u1 ⟨v1, rfl, i1, b1⟩
          have G_1 := Lib.hid i1
          have B1 := Lib.hid (b1)
          clear b1 i1
          go_wp2_with fail
          refine (HLs.out _ (K.out.later B1.out)).mono ?_
          rintro e u2 ⟨v2, rfl, i2, b2⟩
          have G_2 := Lib.hid (G_1.out.later b2)
          have S_2 := Lib.hid i2
          have B2 := Lib.hid (below_nx B1.out b2)
          clear b2 i2
          go_wp2_with fail
          refine (HN.out _ _ _ G_2.out S_2.out).mono ?_
          rintro e u3 ⟨v3, rfl, i3, b3⟩
          have G_3 := Lib.hid (G_2.out.later b3)
          have S_3 := Lib.hid (S_2.out.later b3)
          have X_3 := Lib.hid i3
          have B3 := Lib.hid (below_nx B2.out b3)
          clear b3 i3
          go_wp2_with fail
          refine (HLg.out _ (H.out.later B3.out)).mono ?_
          rintro e u4 ⟨v4, rfl, i4, b4⟩
          have X_4 := Lib.hid (X_3.out.later b4)
          have G_4 := Lib.hid i4
          have B4 := Lib.hid (below_nx B3.out b4)
          clear b4 i4
          go_wp2_with fail
          refine (HSt2.out _ _ G_4.out).mono ?_
          rintro e u5 ⟨rfl, b5⟩
          have X_5 := Lib.hid (X_4.out.later b5)
          have G_5 := Lib.hid (G_4.out.later b5)
          have B5 := Lib.hid (below_nx B4.out b5)
          clear b5
          go_wp2_with fail
          refine (HPr.out _ (H.out.later B5.out)).mono ?_
          rintro e u6 ⟨rfl, rfl⟩
          go_wp2_with fail
          refine (HRS2.out _ (H.out.later B5.out)).mono ?_
          rintro e u7 ⟨rfl, b7⟩
          have X_7 := Lib.hid (X_5.out.later b7)
          have B7 := Lib.hid (below_nx B5.out b7)
          clear b7
          go_wp2_with fail
          refine (HAw.out _).mono ?_
          rintro e u8 ⟨rfl, b8⟩
          have X_8 := Lib.hid (X_7.out.later b8)
          have B8 := Lib.hid (below_nx B7.out b8)
          clear b8
          go_wp2_with fail
          refine (HNo.out _ (K.out.later B8.out)).mono ?_
          rintro e u9 ⟨rfl, rfl⟩
          go_wp2_with fail
          refine (HRN.out _ (H.out.later B8.out) (K.out.later B8.out)).mono ?_
          rintro e u10 ⟨v10, rfl, i10, b10⟩
          have X_10 := Lib.hid (X_8.out.later b10)
          have Y_10 := Lib.hid i10
          have B10 := Lib.hid (below_nx B8.out b10)
          clear b10 i10
          go_wp2_with fail
          refine (HE.out _ HZ.out _ _ _ X_10.out Y_10.out).mono ?_
          rintro e u11 ⟨rfl, q11, rfl⟩
          obtain ⟨x11, hx11⟩ : ∃ W, u10.drewN q11 = W := ⟨_, rfl⟩
          have hb11 := below_drewN (Below.refl u10.heap.size u10) q11
          rw [hx11] at hb11 ⊢
          have X_11 := Lib.hid (X_10.out.later hb11)
          have Y_11 := Lib.hid (Y_10.out.later hb11)
          have B11 := Lib.hid (below_nx B10.out hb11)
          clear hb11 hx11
          go_wp2
          go_ret
          exact ⟨rfl, B11.out⟩
      · have hge : gs.length ≤ (ss.take 11).length := by rw [List.length_take]; omega
        have HN := Lib.hid (fun a c W ha hc => Next_bad gs (ss.take 11) a c W hl take11 (.inr (.inr hge)) ha hc)
        have hge2 : gs.length ≤ ss.length := by omega
        have q3 : decide ((gs.length : Int) ≤ (ss.length : Int)) = true := decide_eq_true (by omega)
        rw [hn, Bool.true_and] at HNo
        by_cases h8 : ss.length ≤ 8
        · rw [decide_eq_true h8] at HNo
          obtain ⟨ao, cap, hv, _⟩ := h
          obtain ⟨bo, cap', hu, _⟩ := k
          subst hv hu
          clear hg hl hm g1 hn hlt hge h8
          generalize gs.length = G at *
          generalize ss.length = L at *
          go_enter Try.func11, Try.ntmps11
          go_wp2_with fail
          refine (HLg.out _ H.out).mono ?_
          rintro e u1 ⟨v1, rfl, i1, b1⟩
          have G_1 := Lib.hid i1
          have B1 := Lib.hid (b1)
          clear b1 i1
          go_wp2_with fail
          refine (HLs.out _ (K.out.later B1.out)).mono ?_
          rintro e u2 ⟨v2, rfl, i2, b2⟩
          have G_2 := Lib.hid (G_1.out.later b2)
          have S_2 := Lib.hid i2
          have B2 := Lib.hid (below_nx B1.out b2)
          clear b2 i2
          go_wp2_with fail
          refine (HN.out _ _ _ G_2.out S_2.out).mono ?_
          rintro e u3 ⟨rfl, b3⟩
          have G_3 := Lib.hid (G_2.out.later b3)
          have S_3 := Lib.hid (S_2.out.later b3)
          have B3 := Lib.hid (below_nx B2.out b3)
          clear b3
          go_wp2_with fail
          refine (HLg.out _ (H.out.later B3.out)).mono ?_
          rintro e u4 ⟨v4, rfl, i4, b4⟩
          have G_4 := Lib.hid i4
          have B4 := Lib.hid (below_nx B3.out b4)
          clear b4 i4
          go_wp2_with fail
          refine (HSt2.out _ _ G_4.out).mono ?_
          rintro e u5 ⟨rfl, b5⟩
          have G_5 := Lib.hid (G_4.out.later b5)
          have B5 := Lib.hid (below_nx B4.out b5)
          clear b5
          go_wp2_with fail
          refine (HPr.out _ (H.out.later B5.out)).mono ?_
          rintro e u6 ⟨rfl, rfl⟩
          go_wp2_with fail
          refine (HRS2.out _ (H.out.later B5.out)).mono ?_
          rintro e u7 ⟨rfl, b7⟩
          have B7 := Lib.hid (below_nx B5.out b7)
          clear b7
          go_wp2_with fail
          refine (HAw.out _).mono ?_
          rintro e u8 ⟨rfl, b8⟩
          have B8 := Lib.hid (below_nx B7.out b8)
          clear b8
          go_wp2_with fail
          refine (HNo.out _ (K.out.later B8.out)).mono ?_
          rintro e u9 ⟨rfl, rfl⟩
          go_wp2
          go_ret
          exact ⟨rfl, B8.out⟩
        · rw [decide_eq_false h8] at HNo
          obtain ⟨ao, cap, hv, _⟩ := h
          obtain ⟨bo, cap', hu, _⟩ := k
          subst hv hu
          clear hg hl hm g1 hn hlt hge h8
          generalize gs.length = G at *
          generalize ss.length = L at *
          go_enter Try.func11, Try.ntmps11
          go_wp2_with fail
          refine (HLg.out _ H.out).mono ?_
          rintro e u1 ⟨v1, rfl, i1, b1⟩
          have G_1 := Lib.hid i1
          have B1 := Lib.hid (b1)
          clear b1 i1
          go_wp2_with fail
          refine (HLs.out _ (K.out.later B1.out)).mono ?_
          rintro e u2 ⟨v2, rfl, i2, b2⟩
          have G_2 := Lib.hid (G_1.out.later b2)
          have S_2 := Lib.hid i2
          have B2 := Lib.hid (below_nx B1.out b2)
          clear b2 i2
          go_wp2_with fail
          refine (HN.out _ _ _ G_2.out S_2.out).mono ?_
          rintro e u3 ⟨rfl, b3⟩
          have G_3 := Lib.hid (G_2.out.later b3)
          have S_3 := Lib.hid (S_2.out.later b3)
          have B3 := Lib.hid (below_nx B2.out b3)
          clear b3
          go_wp2_with fail
          refine (HLg.out _ (H.out.later B3.out)).mono ?_
          rintro e u4 ⟨v4, rfl, i4, b4⟩
          have G_4 := Lib.hid i4
          have B4 := Lib.hid (below_nx B3.out b4)
          clear b4 i4
          go_wp2_with fail
          refine (HSt2.out _ _ G_4.out).mono ?_
          rintro e u5 ⟨rfl, b5⟩
          have G_5 := Lib.hid (G_4.out.later b5)
          have B5 := Lib.hid (below_nx B4.out b5)
          clear b5
          go_wp2_with fail
          refine (HPr.out _ (H.out.later B5.out)).mono ?_
          rintro e u6 ⟨rfl, rfl⟩
          go_wp2_with fail
          refine (HRS2.out _ (H.out.later B5.out)).mono ?_
          rintro e u7 ⟨rfl, b7⟩
          have B7 := Lib.hid (below_nx B5.out b7)
          clear b7
          go_wp2_with fail
          refine (HAw.out _).mono ?_
          rintro e u8 ⟨rfl, b8⟩
          have B8 := Lib.hid (below_nx B7.out b8)
          clear b8
          go_wp2_with fail
          refine (HNo.out _ (K.out.later B8.out)).mono ?_
          rintro e u9 ⟨rfl, rfl⟩
          go_wp2
          go_ret
          exact ⟨rfl, B8.out⟩
end Go.Proofs.Ytlmfmfbnbbooaaa
