/-
  The right second parts as a set, in their order; the best of them; their number, note by note. Plain mathematics.
-/
import Derived.Test.YtlmfmfbnbbooaaaDuAlong
import Derived.Test.YtlmfmfbnbbooaaaDuBest
import Derived.Test.YtlmfmfbnbbooaaaShComp
namespace Go.Proofs.Ytlmfmfbnbbooaaa

section
open Go.ChangeShapes Go.WideShapes Go.ChangeAt Go.RowKit
set_option maxRecDepth 100000

theorem notes_append (a b : List Int) : notesB (a ++ b) = (notesB a && notesB b) := by unfold notesB; rw [List.all_append]
theorem nAt_pre (b t : List Int) {j : Nat} (h : j < b.length) : nAt (b ++ t) j = nAt b j := by
  unfold nAt; rw [List.getElem?_append_left h]
theorem fault_pre (gs b t u : List Int) {i : Nat} (h : i < b.length) : faultN gs (b ++ t) i = faultN gs (b ++ u) i :=
  fault_local fun j hj => by rw [nAt_pre b t (by omega), nAt_pre b u (by omega)]
theorem mem_next {gs b : List Int} {x : Nat} : x ∈ nextL gs b ↔ x < 21 ∧ faultN gs (b ++ [(x : Int)]) b.length = 0 := by
  unfold nextL
  rw [List.mem_filter, List.mem_range, decide_eq_true_eq]
theorem mem_beg (gs : List Int) : ∀ (f : Nat) (b m : List Int), m ∈ begL gs f b ↔ ∃ t, m = b ++ t ∧ 1 ≤ t.length ∧ t.length ≤ f ∧ notesB t = true ∧ ∀ i, b.length ≤ i → i < m.length → faultN gs m i = 0
  | 0, b, m => by
    constructor
    · intro h; simp [begL] at h
    · rintro ⟨t, _, h1, h2, _⟩; omega
  | f + 1, b, m => by
    unfold begL
    rw [List.mem_flatMap]
    constructor
    · rintro ⟨x, hx, hm⟩
      obtain ⟨x21, hf⟩ := mem_next.1 hx
      rcases List.mem_cons.1 hm with rfl | hm
      · refine ⟨[(x : Int)], rfl, by simp, by simp, by unfold notesB noteB; simp; omega, fun i h1 h2 => ?_⟩
        rw [List.length_append] at h2
        simp only [List.length_cons, List.length_nil] at h2
        obtain rfl : i = b.length := by omega
        exact hf
      · obtain ⟨t, rfl, h1, h2, h3, h4⟩ := (mem_beg gs f _ _).1 hm
        refine ⟨(x : Int) :: t, by simp, by simp, by rw [List.length_cons]; omega, ?_, fun i i1 i2 => ?_⟩
        · have : notesB ([(x : Int)] ++ t) = true := by
            rw [notes_append, h3, Bool.and_true]; unfold notesB noteB; simp; omega
          exact this
        · by_cases hi : i = b.length
          · subst hi
            rw [← hf]
            have := fault_pre gs (b ++ [(x : Int)]) t [] (i := b.length) (by simp)
            rw [List.append_nil] at this
            exact this
          · exact h4 i (by rw [List.length_append]; simp; omega) i2
    · rintro ⟨t, rfl, h1, h2, h3, h4⟩
      cases t with
      | nil => simp at h1
      | cons y t =>
        have hy : 0 ≤ y ∧ y ≤ 20 := by
          unfold notesB noteB at h3
          rw [List.all_cons, Bool.and_eq_true, decide_eq_true_eq] at h3
          exact h3.1
        have ht : notesB t = true := by
          unfold notesB at h3 ⊢
          rw [List.all_cons, Bool.and_eq_true] at h3
          exact h3.2
        obtain ⟨x, rfl⟩ : ∃ x : Nat, y = x := ⟨y.toNat, by omega⟩
        have e : b ++ (x : Int) :: t = (b ++ [(x : Int)]) ++ t := by simp
        rw [e] at h4 ⊢
        refine ⟨x, mem_next.2 ⟨by omega, ?_⟩, ?_⟩
        · have := fault_pre gs (b ++ [(x : Int)]) [] t (i := b.length) (by simp)
          rw [List.append_nil] at this
          rw [this]
          exact h4 _ (Nat.le_refl _) (by simp)
        · cases t with
          | nil => simp
          | cons z t =>
            refine List.mem_cons.2 (.inr ((mem_beg gs f _ _).2 ⟨z :: t, rfl, by simp, by simp at h2 ⊢; omega, ht, fun i i1 i2 => h4 i ?_ i2⟩))
            rw [List.length_append] at i1
            simp at i1
            omega
theorem mem_right {gs s : List Int} (h : 1 ≤ gs.length) : s ∈ rightL gs ↔ s.length = gs.length ∧ notesB s = true ∧ keptB gs s = true := by
  unfold rightL
  rw [List.mem_filter, mem_beg, decide_eq_true_eq, kept_iff]
  constructor
  · rintro ⟨⟨t, rfl, h1, h2, h3, h4⟩, hl⟩
    exact ⟨hl, h3, fun i hi => h4 i (by simp) hi⟩
  · rintro ⟨h1, h2, h3⟩
    exact ⟨⟨s, rfl, by omega, by omega, h2, fun i _ hi => h3 i hi⟩, h1⟩
theorem right_pair {gs s : List Int} (hg : dpartB gs = true) : s ∈ rightL gs ↔ pairB gs s = true ∧ keptB gs s = true := by
  have g1 := dpart_len hg
  rw [mem_right g1.1, pair_cases, hg, Bool.true_and, Bool.and_eq_true, decide_eq_true_eq]
  unfold dpartB
  rw [Bool.and_eq_true, decide_eq_true_eq]
  constructor
  · rintro ⟨h1, h2, h3⟩; exact ⟨⟨⟨by omega, h2⟩, h1.symm⟩, h3⟩
  · rintro ⟨⟨⟨_, h2⟩, h1⟩, h3⟩; exact ⟨h1.symm, h2, h3⟩

theorem comp_pre : ∀ (b : List Int) {t : List Int}, t ≠ [] → compL b (b ++ t) = -1
  | [], t, h => by
    cases t with
    | nil => exact absurd rfl h
    | cons y t => rfl
  | x :: b, t, h => by
    rw [List.cons_append]
    unfold compL
    rw [if_neg (by omega), if_neg (by omega)]
    exact comp_pre b h
theorem comp_at : ∀ (b : List Int) {x y : Int} (s t : List Int), x < y → compL (b ++ x :: s) (b ++ y :: t) = -1
  | [], x, y, s, t, h => by
    rw [List.nil_append, List.nil_append]
    unfold compL
    rw [if_pos h]
  | z :: b, x, y, s, t, h => by
    rw [List.cons_append, List.cons_append]
    unfold compL
    rw [if_neg (by omega), if_neg (by omega)]
    exact comp_at b s t h
theorem next_pair (gs b : List Int) : (nextL gs b).Pairwise (· < ·) := by
  unfold nextL
  exact List.Pairwise.filter _ List.pairwise_lt_range
theorem beg_pair (gs : List Int) : ∀ (f : Nat) (b : List Int), (begL gs f b).Pairwise fun x y => compL x y = -1
  | 0, b => List.Pairwise.nil
  | f + 1, b => by
    unfold begL
    rw [List.pairwise_flatMap]
    refine ⟨fun x _ => List.pairwise_cons.2 ⟨fun m hm => ?_, beg_pair gs f _⟩, (next_pair gs b).imp fun {x y} hxy m hm k hk => ?_⟩
    · obtain ⟨t, rfl, h1, _⟩ := (mem_beg gs f _ _).1 hm
      exact comp_pre _ (fun e => by rw [e] at h1; simp at h1)
    · have hh : ∀ (z : Nat) (q : List Int), q ∈ (b ++ [(z : Int)]) :: begL gs f (b ++ [(z : Int)]) → ∃ t, q = b ++ (z : Int) :: t := fun z q hq => by
        rcases List.mem_cons.1 hq with rfl | hq
        · exact ⟨[], by simp⟩
        · obtain ⟨t, rfl, _⟩ := (mem_beg gs f _ _).1 hq
          exact ⟨t, by simp⟩
      obtain ⟨t, rfl⟩ := hh x m hm
      obtain ⟨u, rfl⟩ := hh y k hk
      exact comp_at b t u (by omega)
theorem right_sorted (gs : List Int) : (rightL gs).Pairwise fun x y => compL x y = -1 := List.Pairwise.filter _ (beg_pair gs _ _)
theorem first_least {gs l0 : List Int} {rest : List (List Int)} (h : rightL gs = l0 :: rest) {s : List Int} (hs : s ∈ rightL gs) : compL l0 s ≤ 0 := by
  have hp := right_sorted gs
  rw [h] at hp hs
  rcases List.mem_cons.1 hs with rfl | hs
  · rw [compL_self]; omega
  · rw [(List.pairwise_cons.1 hp).1 s hs]; omega
theorem best_all (gs : List Int) : ∀ (n : Nat) (l : List (List Int)), l.length = n → l.Pairwise (fun x y => compL x y = -1) → ∀ b, bestF gs l = some b →
    b ∈ l ∧ (∀ x ∈ l, worthW gs x ≤ worthW gs b) ∧ ∀ x ∈ l, worthW gs x = worthW gs b → compL b x ≤ 0
  | 0, l, hl, _, b, hb => by
    rw [List.length_eq_zero_iff.1 hl] at hb; cases hb
  | n + 1, l, hl, hp, b, hb => by
    rcases List.eq_nil_or_concat l with rfl | ⟨l', x, rfl⟩
    · simp at hl
    · rw [List.concat_eq_append] at hl hp hb ⊢
      rw [List.length_append] at hl
      simp at hl
      obtain ⟨hp1, _, hp2⟩ := List.pairwise_append.1 hp
      rw [bestF_snoc] at hb
      cases e : bestF gs l' with
      | none =>
        rw [e] at hb
        cases hb
        rw [bestF_none e]
        refine ⟨by simp, fun y hy => ?_, fun y hy _ => ?_⟩
        · rw [List.nil_append, List.mem_singleton] at hy; rw [hy]; omega
        · rw [List.nil_append, List.mem_singleton] at hy; rw [hy, compL_self]; omega
      | some c =>
        rw [e] at hb
        obtain ⟨h1, h2, h3⟩ := best_all gs n l' hl hp1 c e
        dsimp only at hb
        by_cases hlt : worthW gs c < worthW gs x
        · rw [if_pos hlt] at hb
          cases hb
          refine ⟨by simp, fun y hy => ?_, fun y hy he => ?_⟩
          · rcases List.mem_append.1 hy with hy | hy
            · have := h2 y hy; omega
            · rw [List.mem_singleton.1 hy]; omega
          · rcases List.mem_append.1 hy with hy | hy
            · have := h2 y hy; omega
            · rw [List.mem_singleton.1 hy, compL_self]; omega
        · rw [if_neg hlt] at hb
          cases hb
          refine ⟨by simp [h1], fun y hy => ?_, fun y hy he => ?_⟩
          · rcases List.mem_append.1 hy with hy | hy
            · exact h2 y hy
            · rw [List.mem_singleton.1 hy]; omega
          · rcases List.mem_append.1 hy with hy | hy
            · exact h3 y hy he
            · rw [hp2 _ h1 y hy]; omega

/-- How many ways there are through the next notes. -/
def waysN (gs : List Int) : Nat → List Int → Nat
  | 0, _ => 1
  | f + 1, b => ((nextL gs b).map fun (x : Nat) => waysN gs f (b ++ [(x : Int)])).sum
theorem sum_flat {α β : Type} (p : β → Bool) (f : α → List β) : ∀ l : List α, ((l.flatMap f).filter p).length = (l.map fun a => ((f a).filter p).length).sum
  | [] => rfl
  | a :: l => by rw [List.flatMap_cons, List.filter_append, List.length_append, List.map_cons, List.sum_cons, sum_flat p f l]
theorem ways_count (gs : List Int) : ∀ (f : Nat) (b : List Int), ((b :: begL gs f b).filter fun s => decide (s.length = b.length + f)).length = waysN gs f b
  | 0, b => by unfold begL waysN; simp
  | f + 1, b => by
    rw [List.filter_cons_of_neg (by simp)]
    unfold begL waysN
    rw [sum_flat]
    congr 1
    refine List.map_congr_left fun x _ => ?_
    rw [← ways_count gs f]
    have e : (b ++ [(x : Int)]).length + f = b.length + (f + 1) := by rw [List.length_append]; simp; omega
    rw [e]
theorem ways_right {gs : List Int} (h : 1 ≤ gs.length) : waysN gs gs.length [] = (rightL gs).length := by
  rw [← ways_count]
  unfold rightL
  rw [List.filter_cons_of_neg (by simp; omega)]
  simp
theorem sum_ge {l : List Nat} {a : Nat} (h : a ∈ l) : a ≤ l.sum := by
  induction l with
  | nil => cases h
  | cons b l ih =>
    rw [List.sum_cons]
    rcases List.mem_cons.1 h with rfl | h
    · omega
    · have := ih h; omega
end

section
/-
  The statement on the best second part.
-/
open Go.ChangeShapes Go.WideShapes Go.ChangeAt Go.RowKit
set_option maxRecDepth 100000

theorem worthV_kept {gs ss : List Int} (h : keptB gs ss = true) : worthV gs ss = .tuple #[.int .i64 (worthW gs ss), .int .i64 0] := by
  unfold worthV worthW; rw [h]; rfl
theorem worthV_not {gs ss : List Int} (h : keptB gs ss = false) : worthV gs ss = .tuple #[.int .i64 0, .int .i64 4] := by
  unfold worthV; rw [h]; rfl
theorem best_some {gs b : List Int} (hg : dpartB gs = true) (hb : bestF gs (rightL gs) = some b) : b ∈ rightL gs ∧ pairB gs b = true ∧ keptB gs b = true := by
  have h := (best_all gs _ (rightL gs) rfl (right_sorted gs) b hb).1
  exact ⟨h, (right_pair hg).1 h⟩
theorem best_ge {gs b x : List Int} (hb : bestF gs (rightL gs) = some b) (hx : x ∈ rightL gs) : worthW gs x ≤ worthW gs b := (best_all gs _ (rightL gs) rfl (right_sorted gs) b hb).2.1 x hx
theorem best_first {gs b x : List Int} (hb : bestF gs (rightL gs) = some b) (hx : x ∈ rightL gs) (he : worthW gs x = worthW gs b) : compL b x ≤ 0 := (best_all gs _ (rightL gs) rfl (right_sorted gs) b hb).2.2 x hx he

set_option maxHeartbeats 4000000 in
theorem DuetsWorth_walk (gs ss : List Int) (g s : Value) (w : World) (hl : gs.length ≤ maxLen) (h : IntsV w g gs) (hm : ss.length ≤ maxLen) (k : IntsV w s ss) :
    Calls Try.prog 15 #[g, s] w fun e w' => e = .returned (.bool true) ∧ Below w.heap.size w w' := by
  have HAw := Lib.hid (fun W => dawake_any W)
  have HLg := Lib.hid (fun W hW => dlist_any gs g W hl hW)
  have HLs := Lib.hid (fun W hW => dlist_any ss s W hm hW)
  have HPr := Lib.hid (fun W a => RPartD_any gs g W hl a)
  have H := Lib.hid h
  have K := Lib.hid k
  cases hg : dpartB gs
  · have HB := Lib.hid (fun a W ha => Best_bad (gs.take 11) a W take11 (by rw [dpart_take]; exact hg) ha)
    rw [hg] at HPr
    obtain ⟨ao, cap, hv, _⟩ := h
    obtain ⟨bo, cap', hu, _⟩ := k
    subst hv hu
    clear hg hl hm
    go_enter Try.func15, Try.ntmps15
    go_wp2_with fail
    refine (HLg.out _ H.out).mono ?_
    rintro e u1 ⟨v1, rfl, i1, b1⟩
    have G_1 := Lib.hid i1
    have B1 := Lib.hid (b1)
    clear b1 i1
    go_wp2_with fail
    refine (HB.out _ _ G_1.out).mono ?_
    rintro e u2 ⟨rfl, b2⟩
    have G_2 := Lib.hid (G_1.out.later b2)
    have B2 := Lib.hid (below_nx B1.out b2)
    clear b2
    go_wp2_with fail
    refine (HAw.out _).mono ?_
    rintro e uz ⟨rfl, bz⟩
    go_wp2
    go_ret
    exact ⟨rfl, below_nx B2.out bz⟩
  · have g1 := dpart_len hg
    rw [hg] at HPr
    rw [dtake hg] at HLg
    cases hb : bestF gs (rightL gs) with
    | none =>
      have HB := Lib.hid (fun a W ha => (Best_any gs a W hg ha).mono (fun e w' h => show e = .returned (.tuple #[.slice none 0 0, .int .i64 4]) ∧ Below W.heap.size W w' from by
        obtain ⟨v, c, e1, h1, h2⟩ := h
        rcases h1 with ⟨_, rfl, rfl⟩ | ⟨x, hx, _⟩
        · exact ⟨e1, h2⟩
        · rw [hb] at hx; cases hx))
      obtain ⟨ao, cap, hv, _⟩ := h
      obtain ⟨bo, cap', hu, _⟩ := k
      subst hv hu
      clear hg hl hm hb g1
      go_enter Try.func15, Try.ntmps15
      go_wp2_with fail
      refine (HLg.out _ H.out).mono ?_
      rintro e u1 ⟨v1, rfl, i1, b1⟩
      have G_1 := Lib.hid i1
      have B1 := Lib.hid (b1)
      clear b1 i1
      go_wp2_with fail
      refine (HB.out _ _ G_1.out).mono ?_
      rintro e u2 ⟨rfl, b2⟩
      have G_2 := Lib.hid (G_1.out.later b2)
      have B2 := Lib.hid (below_nx B1.out b2)
      clear b2
      go_wp2_with fail
      refine (HAw.out _).mono ?_
      rintro e uz ⟨rfl, bz⟩
      go_wp2
      go_ret
      exact ⟨rfl, below_nx B2.out bz⟩
    | some b =>
      obtain ⟨hbm, hbp, hbk⟩ := best_some hg hb
      have hb8 := (dpart_len (pair_parts hbp).2.1)
      obtain ⟨l0, rest, hr0⟩ : ∃ l0 rest, rightL gs = l0 :: rest := by
        cases e : rightL gs with
        | nil => rw [e] at hbm; cases hbm
        | cons a r => exact ⟨a, r, rfl⟩
      have hlm : l0 ∈ rightL gs := by rw [hr0]; simp
      obtain ⟨hlp, hlk⟩ := (right_pair hg).1 hlm
      have HB := Lib.hid (fun a W ha => (Best_any gs a W hg ha).mono (fun e w' h => show ∃ v, e = .returned (.tuple #[v, .int .i64 0]) ∧ IntsV w' v b ∧ Below W.heap.size W w' from by
        obtain ⟨v, c, e1, h1, h2⟩ := h
        rcases h1 with ⟨hx, _⟩ | ⟨x, hx, h3, rfl⟩
        · rw [hb] at hx; cases hx
        · rw [hb] at hx; cases hx; exact ⟨v, e1, h3, h2⟩))
      have HF := Lib.hid (fun a W ha => First_ok gs l0 rest a W hg hr0 ha)
      have HCl := Lib.hid (fun a W ha => Clone_any b a W (by omega) ha)
      have HWb := Lib.hid (fun a c W ha hc => Worth_ok gs b a c W hbp ha hc)
      have HWl := Lib.hid (fun a c W ha hc => Worth_ok gs l0 a c W hlp ha hc)
      rw [worthV_kept hbk] at HWb
      rw [worthV_kept hlk] at HWl
      have hge := best_ge hb hlm
      have d1 : decide (worthW gs b < worthW gs l0) = false := decide_eq_false (by omega)
      clear hbm hbp hbk hr0 hlm hlp hlk
      cases hp : pairB gs ss
      · have HWs := Lib.hid (fun a c W ha hc => Worth_bad gs (ss.take 11) a c W hl take11 (by have h9 := pair_take gs ss; rw [dtake hg] at h9; rw [h9]; exact hp) ha hc)
        obtain ⟨ao, cap, hv, _⟩ := h
        obtain ⟨bo, cap', hu, _⟩ := k
        subst hv hu
        clear hg hl hm hb g1 hp hb8 hge
        generalize worthW gs b = n at *
        generalize worthW gs l0 = m at *
        go_enter Try.func15, Try.ntmps15
        go_wp2_with fail
        refine (HLg.out _ H.out).mono ?_
        rintro e u1 ⟨v1, rfl, i1, b1⟩
        have G_1 := Lib.hid i1
        have B1 := Lib.hid (b1)
        clear b1 i1
        go_wp2_with fail
        refine (HB.out _ _ G_1.out).mono ?_
        rintro e u2 ⟨v2, rfl, i2, b2⟩
        have G_2 := Lib.hid (G_1.out.later b2)
        have X_2 := Lib.hid i2
        have B2 := Lib.hid (below_nx B1.out b2)
        clear b2 i2
        go_wp2_with fail
        refine (HPr.out _ (H.out.later B2.out)).mono ?_
        rintro e u3 ⟨rfl, rfl⟩
        go_wp2_with fail
        refine (HLg.out _ (H.out.later B2.out)).mono ?_
        rintro e u4 ⟨v4, rfl, i4, b4⟩
        have X_4 := Lib.hid (X_2.out.later b4)
        have G_4 := Lib.hid i4
        have B4 := Lib.hid (below_nx B2.out b4)
        clear b4 i4
        go_wp2_with fail
        refine (HF.out _ _ G_4.out).mono ?_
        rintro e u5 ⟨v5, rfl, i5, b5⟩
        have X_5 := Lib.hid (X_4.out.later b5)
        have G_5 := Lib.hid (G_4.out.later b5)
        have Y_5 := Lib.hid i5
        have B5 := Lib.hid (below_nx B4.out b5)
        clear b5 i5
        go_wp2_with fail
        refine (HLg.out _ (H.out.later B5.out)).mono ?_
        rintro e u6 ⟨v6, rfl, i6, b6⟩
        have X_6 := Lib.hid (X_5.out.later b6)
        have Y_6 := Lib.hid (Y_5.out.later b6)
        have G_6 := Lib.hid i6
        have B6 := Lib.hid (below_nx B5.out b6)
        clear b6 i6
        go_wp2_with fail
        refine (HCl.out _ _ X_6.out).mono ?_
        rintro e u7 ⟨v7, rfl, i7, b7⟩
        have X_7 := Lib.hid (X_6.out.later b7)
        have Y_7 := Lib.hid (Y_6.out.later b7)
        have G_7 := Lib.hid (G_6.out.later b7)
        have Z_7 := Lib.hid i7
        have B7 := Lib.hid (below_nx B6.out b7)
        clear b7 i7
        go_wp2_with fail
        refine (HWb.out _ _ _ G_7.out Z_7.out).mono ?_
        rintro e u8 ⟨rfl, b8⟩
        have X_8 := Lib.hid (X_7.out.later b8)
        have Y_8 := Lib.hid (Y_7.out.later b8)
        have G_8 := Lib.hid (G_7.out.later b8)
        have Z_8 := Lib.hid (Z_7.out.later b8)
        have B8 := Lib.hid (below_nx B7.out b8)
        clear b8
        go_wp2_with fail
        refine (HLg.out _ (H.out.later B8.out)).mono ?_
        rintro e u9 ⟨v9, rfl, i9, b9⟩
        have X_9 := Lib.hid (X_8.out.later b9)
        have Y_9 := Lib.hid (Y_8.out.later b9)
        have G_9 := Lib.hid i9
        have B9 := Lib.hid (below_nx B8.out b9)
        clear b9 i9
        go_wp2_with fail
        refine (HWl.out _ _ _ G_9.out Y_9.out).mono ?_
        rintro e u10 ⟨rfl, b10⟩
        have X_10 := Lib.hid (X_9.out.later b10)
        have Y_10 := Lib.hid (Y_9.out.later b10)
        have G_10 := Lib.hid (G_9.out.later b10)
        have B10 := Lib.hid (below_nx B9.out b10)
        clear b10
        go_wp2_with fail
        refine (HLg.out _ (H.out.later B10.out)).mono ?_
        rintro e u11 ⟨v11, rfl, i11, b11⟩
        have X_11 := Lib.hid (X_10.out.later b11)
        have G_11 := Lib.hid i11
        have B11 := Lib.hid (below_nx B10.out b11)
        clear b11 i11
        go_wp2_with fail
        refine (HLs.out _ (K.out.later B11.out)).mono ?_
        rintro e u12 ⟨v12, rfl, i12, b12⟩
        have X_12 := Lib.hid (X_11.out.later b12)
        have G_12 := Lib.hid (G_11.out.later b12)
        have S_12 := Lib.hid i12
        have B12 := Lib.hid (below_nx B11.out b12)
        clear b12 i12
        have HX := Lib.hid (HWs.out _ _ _ G_12.out S_12.out)
        go_wp2_with fail
        refine HX.out.mono ?_
        rintro e uy ⟨rfl, rfl⟩
        go_wp2_with fail
        refine (HAw.out _).mono ?_
        rintro e uz ⟨rfl, bz⟩
        go_wp2
        go_ret
        exact ⟨rfl, below_nx B12.out bz⟩
      · have s1 := dpart_len (pair_parts hp).2.1
        rw [dtake (pair_parts hp).2.1] at HLs
        have HWs := Lib.hid (fun a c W ha hc => Worth_ok gs ss a c W hp ha hc)
        cases hk : keptB gs ss
        · rw [worthV_not hk] at HWs
          obtain ⟨ao, cap, hv, _⟩ := h
          obtain ⟨bo, cap', hu, _⟩ := k
          subst hv hu
          clear hg hl hm hb g1 hp hb8 hge hk s1
          generalize worthW gs b = n at *
          generalize worthW gs l0 = m at *
          go_enter Try.func15, Try.ntmps15
          go_wp2_with fail
          refine (HLg.out _ H.out).mono ?_
          rintro e u1 ⟨v1, rfl, i1, b1⟩
          have G_1 := Lib.hid i1
          have B1 := Lib.hid (b1)
          clear b1 i1
          go_wp2_with fail
          refine (HB.out _ _ G_1.out).mono ?_
          rintro e u2 ⟨v2, rfl, i2, b2⟩
          have G_2 := Lib.hid (G_1.out.later b2)
          have X_2 := Lib.hid i2
          have B2 := Lib.hid (below_nx B1.out b2)
          clear b2 i2
          go_wp2_with fail
          refine (HPr.out _ (H.out.later B2.out)).mono ?_
          rintro e u3 ⟨rfl, rfl⟩
          go_wp2_with fail
          refine (HLg.out _ (H.out.later B2.out)).mono ?_
          rintro e u4 ⟨v4, rfl, i4, b4⟩
          have X_4 := Lib.hid (X_2.out.later b4)
          have G_4 := Lib.hid i4
          have B4 := Lib.hid (below_nx B2.out b4)
          clear b4 i4
          go_wp2_with fail
          refine (HF.out _ _ G_4.out).mono ?_
          rintro e u5 ⟨v5, rfl, i5, b5⟩
          have X_5 := Lib.hid (X_4.out.later b5)
          have G_5 := Lib.hid (G_4.out.later b5)
          have Y_5 := Lib.hid i5
          have B5 := Lib.hid (below_nx B4.out b5)
          clear b5 i5
          go_wp2_with fail
          refine (HLg.out _ (H.out.later B5.out)).mono ?_
          rintro e u6 ⟨v6, rfl, i6, b6⟩
          have X_6 := Lib.hid (X_5.out.later b6)
          have Y_6 := Lib.hid (Y_5.out.later b6)
          have G_6 := Lib.hid i6
          have B6 := Lib.hid (below_nx B5.out b6)
          clear b6 i6
          go_wp2_with fail
          refine (HCl.out _ _ X_6.out).mono ?_
          rintro e u7 ⟨v7, rfl, i7, b7⟩
          have X_7 := Lib.hid (X_6.out.later b7)
          have Y_7 := Lib.hid (Y_6.out.later b7)
          have G_7 := Lib.hid (G_6.out.later b7)
          have Z_7 := Lib.hid i7
          have B7 := Lib.hid (below_nx B6.out b7)
          clear b7 i7
          go_wp2_with fail
          refine (HWb.out _ _ _ G_7.out Z_7.out).mono ?_
          rintro e u8 ⟨rfl, b8⟩
          have X_8 := Lib.hid (X_7.out.later b8)
          have Y_8 := Lib.hid (Y_7.out.later b8)
          have G_8 := Lib.hid (G_7.out.later b8)
          have Z_8 := Lib.hid (Z_7.out.later b8)
          have B8 := Lib.hid (below_nx B7.out b8)
          clear b8
          go_wp2_with fail
          refine (HLg.out _ (H.out.later B8.out)).mono ?_
          rintro e u9 ⟨v9, rfl, i9, b9⟩
          have X_9 := Lib.hid (X_8.out.later b9)
          have Y_9 := Lib.hid (Y_8.out.later b9)
          have G_9 := Lib.hid i9
          have B9 := Lib.hid (below_nx B8.out b9)
          clear b9 i9
          go_wp2_with fail
          refine (HWl.out _ _ _ G_9.out Y_9.out).mono ?_
          rintro e u10 ⟨rfl, b10⟩
          have X_10 := Lib.hid (X_9.out.later b10)
          have Y_10 := Lib.hid (Y_9.out.later b10)
          have G_10 := Lib.hid (G_9.out.later b10)
          have B10 := Lib.hid (below_nx B9.out b10)
          clear b10
          go_wp2_with fail
          refine (HLg.out _ (H.out.later B10.out)).mono ?_
          rintro e u11 ⟨v11, rfl, i11, b11⟩
          have X_11 := Lib.hid (X_10.out.later b11)
          have G_11 := Lib.hid i11
          have B11 := Lib.hid (below_nx B10.out b11)
          clear b11 i11
          go_wp2_with fail
          refine (HLs.out _ (K.out.later B11.out)).mono ?_
          rintro e u12 ⟨v12, rfl, i12, b12⟩
          have X_12 := Lib.hid (X_11.out.later b12)
          have G_12 := Lib.hid (G_11.out.later b12)
          have S_12 := Lib.hid i12
          have B12 := Lib.hid (below_nx B11.out b12)
          clear b12 i12
          go_wp2_with fail
          refine (HWs.out _ _ _ G_12.out S_12.out).mono ?_
          rintro e u13 ⟨rfl, b13⟩
          have X_13 := Lib.hid (X_12.out.later b13)
          have G_13 := Lib.hid (G_12.out.later b13)
          have S_13 := Lib.hid (S_12.out.later b13)
          have B13 := Lib.hid (below_nx B12.out b13)
          clear b13
          go_wp2_with fail
          refine (HAw.out _).mono ?_
          rintro e uz ⟨rfl, bz⟩
          go_wp2
          go_ret
          exact ⟨rfl, below_nx B13.out bz⟩
        · rw [worthV_kept hk] at HWs
          have hsm := (right_pair hg).2 ⟨hp, hk⟩
          have hgs := best_ge hb hsm
          by_cases he : worthW gs ss = worthW gs b
          · have hcl := best_first hb hsm he
            have HCm := Lib.hid (fun a c W ha hc => Compare_any b ss a c W (by unfold maxLen; omega) hm ha hc)
            rw [he] at HWs
            obtain ⟨ao, cap, hv, _⟩ := h
            obtain ⟨bo, cap', hu, _⟩ := k
            subst hv hu
            clear hg hl hm g1 hp hb8 hge hk s1 hsm hb
            generalize worthW gs b = n at *
            generalize worthW gs l0 = m at *
            generalize compL b ss = cc at *
            have d2 : decide (cc ≤ 0) = true := decide_eq_true hcl
            have d3 : decide (n ≤ n) = true := decide_eq_true (Int.le_refl n)
            have d4 : decide (n < n) = false := decide_eq_false (Int.lt_irrefl n)
            go_enter Try.func15, Try.ntmps15
            go_wp2_with fail
            refine (HLg.out _ H.out).mono ?_
            rintro e u1 ⟨v1, rfl, i1, b1⟩
            have G_1 := Lib.hid i1
            have B1 := Lib.hid (b1)
            clear b1 i1
            go_wp2_with fail
            refine (HB.out _ _ G_1.out).mono ?_
            rintro e u2 ⟨v2, rfl, i2, b2⟩
            have G_2 := Lib.hid (G_1.out.later b2)
            have X_2 := Lib.hid i2
            have B2 := Lib.hid (below_nx B1.out b2)
            clear b2 i2
            go_wp2_with fail
            refine (HPr.out _ (H.out.later B2.out)).mono ?_
            rintro e u3 ⟨rfl, rfl⟩
            go_wp2_with fail
            refine (HLg.out _ (H.out.later B2.out)).mono ?_
            rintro e u4 ⟨v4, rfl, i4, b4⟩
            have X_4 := Lib.hid (X_2.out.later b4)
            have G_4 := Lib.hid i4
            have B4 := Lib.hid (below_nx B2.out b4)
            clear b4 i4
            go_wp2_with fail
            refine (HF.out _ _ G_4.out).mono ?_
            rintro e u5 ⟨v5, rfl, i5, b5⟩
            have X_5 := Lib.hid (X_4.out.later b5)
            have G_5 := Lib.hid (G_4.out.later b5)
            have Y_5 := Lib.hid i5
            have B5 := Lib.hid (below_nx B4.out b5)
            clear b5 i5
            go_wp2_with fail
            refine (HLg.out _ (H.out.later B5.out)).mono ?_
            rintro e u6 ⟨v6, rfl, i6, b6⟩
            have X_6 := Lib.hid (X_5.out.later b6)
            have Y_6 := Lib.hid (Y_5.out.later b6)
            have G_6 := Lib.hid i6
            have B6 := Lib.hid (below_nx B5.out b6)
            clear b6 i6
            go_wp2_with fail
            refine (HCl.out _ _ X_6.out).mono ?_
            rintro e u7 ⟨v7, rfl, i7, b7⟩
            have X_7 := Lib.hid (X_6.out.later b7)
            have Y_7 := Lib.hid (Y_6.out.later b7)
            have G_7 := Lib.hid (G_6.out.later b7)
            have Z_7 := Lib.hid i7
            have B7 := Lib.hid (below_nx B6.out b7)
            clear b7 i7
            go_wp2_with fail
            refine (HWb.out _ _ _ G_7.out Z_7.out).mono ?_
            rintro e u8 ⟨rfl, b8⟩
            have X_8 := Lib.hid (X_7.out.later b8)
            have Y_8 := Lib.hid (Y_7.out.later b8)
            have G_8 := Lib.hid (G_7.out.later b8)
            have Z_8 := Lib.hid (Z_7.out.later b8)
            have B8 := Lib.hid (below_nx B7.out b8)
            clear b8
            go_wp2_with fail
            refine (HLg.out _ (H.out.later B8.out)).mono ?_
            rintro e u9 ⟨v9, rfl, i9, b9⟩
            have X_9 := Lib.hid (X_8.out.later b9)
            have Y_9 := Lib.hid (Y_8.out.later b9)
            have G_9 := Lib.hid i9
            have B9 := Lib.hid (below_nx B8.out b9)
            clear b9 i9
            go_wp2_with fail
            refine (HWl.out _ _ _ G_9.out Y_9.out).mono ?_
            rintro e u10 ⟨rfl, b10⟩
            have X_10 := Lib.hid (X_9.out.later b10)
            have Y_10 := Lib.hid (Y_9.out.later b10)
            have G_10 := Lib.hid (G_9.out.later b10)
            have B10 := Lib.hid (below_nx B9.out b10)
            clear b10
            go_wp2_with fail
            refine (HLg.out _ (H.out.later B10.out)).mono ?_
            rintro e u11 ⟨v11, rfl, i11, b11⟩
            have X_11 := Lib.hid (X_10.out.later b11)
            have G_11 := Lib.hid i11
            have B11 := Lib.hid (below_nx B10.out b11)
            clear b11 i11
            go_wp2_with fail
            refine (HLs.out _ (K.out.later B11.out)).mono ?_
            rintro e u12 ⟨v12, rfl, i12, b12⟩
            have X_12 := Lib.hid (X_11.out.later b12)
            have G_12 := Lib.hid (G_11.out.later b12)
            have S_12 := Lib.hid i12
            have B12 := Lib.hid (below_nx B11.out b12)
            clear b12 i12
            go_wp2_with fail
            refine (HWs.out _ _ _ G_12.out S_12.out).mono ?_
            rintro e u13 ⟨rfl, b13⟩
            have X_13 := Lib.hid (X_12.out.later b13)
            have G_13 := Lib.hid (G_12.out.later b13)
            have S_13 := Lib.hid (S_12.out.later b13)
            have B13 := Lib.hid (below_nx B12.out b13)
            clear b13
            go_wp2_with fail
            refine (HCm.out _ _ _ X_13.out (K.out.later B13.out)).mono ?_
            rintro e u14 ⟨rfl, rfl⟩
            go_wp2_with fail
            refine (HAw.out _).mono ?_
            rintro e uz ⟨rfl, bz⟩
            go_wp2
            go_ret
            exact ⟨rfl, below_nx B13.out bz⟩
          · obtain ⟨ao, cap, hv, _⟩ := h
            obtain ⟨bo, cap', hu, _⟩ := k
            subst hv hu
            clear hg hl hm g1 hp hb8 hge hk s1 hsm hb
            generalize worthW gs b = n at *
            generalize worthW gs l0 = m at *
            generalize worthW gs ss = kk at *
            have d2 : decide (kk ≤ n) = true := decide_eq_true hgs
            have d3 : decide (kk < n) = true := decide_eq_true (by omega)
            go_enter Try.func15, Try.ntmps15
            go_wp2_with fail
            refine (HLg.out _ H.out).mono ?_
            rintro e u1 ⟨v1, rfl, i1, b1⟩
            have G_1 := Lib.hid i1
            have B1 := Lib.hid (b1)
            clear b1 i1
            go_wp2_with fail
            refine (HB.out _ _ G_1.out).mono ?_
            rintro e u2 ⟨v2, rfl, i2, b2⟩
            have G_2 := Lib.hid (G_1.out.later b2)
            have X_2 := Lib.hid i2
            have B2 := Lib.hid (below_nx B1.out b2)
            clear b2 i2
            go_wp2_with fail
            refine (HPr.out _ (H.out.later B2.out)).mono ?_
            rintro e u3 ⟨rfl, rfl⟩
            go_wp2_with fail
            refine (HLg.out _ (H.out.later B2.out)).mono ?_
            rintro e u4 ⟨v4, rfl, i4, b4⟩
            have X_4 := Lib.hid (X_2.out.later b4)
            have G_4 := Lib.hid i4
            have B4 := Lib.hid (below_nx B2.out b4)
            clear b4 i4
            go_wp2_with fail
            refine (HF.out _ _ G_4.out).mono ?_
            rintro e u5 ⟨v5, rfl, i5, b5⟩
            have X_5 := Lib.hid (X_4.out.later b5)
            have G_5 := Lib.hid (G_4.out.later b5)
            have Y_5 := Lib.hid i5
            have B5 := Lib.hid (below_nx B4.out b5)
            clear b5 i5
            go_wp2_with fail
            refine (HLg.out _ (H.out.later B5.out)).mono ?_
            rintro e u6 ⟨v6, rfl, i6, b6⟩
            have X_6 := Lib.hid (X_5.out.later b6)
            have Y_6 := Lib.hid (Y_5.out.later b6)
            have G_6 := Lib.hid i6
            have B6 := Lib.hid (below_nx B5.out b6)
            clear b6 i6
            go_wp2_with fail
            refine (HCl.out _ _ X_6.out).mono ?_
            rintro e u7 ⟨v7, rfl, i7, b7⟩
            have X_7 := Lib.hid (X_6.out.later b7)
            have Y_7 := Lib.hid (Y_6.out.later b7)
            have G_7 := Lib.hid (G_6.out.later b7)
            have Z_7 := Lib.hid i7
            have B7 := Lib.hid (below_nx B6.out b7)
            clear b7 i7
            go_wp2_with fail
            refine (HWb.out _ _ _ G_7.out Z_7.out).mono ?_
            rintro e u8 ⟨rfl, b8⟩
            have X_8 := Lib.hid (X_7.out.later b8)
            have Y_8 := Lib.hid (Y_7.out.later b8)
            have G_8 := Lib.hid (G_7.out.later b8)
            have Z_8 := Lib.hid (Z_7.out.later b8)
            have B8 := Lib.hid (below_nx B7.out b8)
            clear b8
            go_wp2_with fail
            refine (HLg.out _ (H.out.later B8.out)).mono ?_
            rintro e u9 ⟨v9, rfl, i9, b9⟩
            have X_9 := Lib.hid (X_8.out.later b9)
            have Y_9 := Lib.hid (Y_8.out.later b9)
            have G_9 := Lib.hid i9
            have B9 := Lib.hid (below_nx B8.out b9)
            clear b9 i9
            go_wp2_with fail
            refine (HWl.out _ _ _ G_9.out Y_9.out).mono ?_
            rintro e u10 ⟨rfl, b10⟩
            have X_10 := Lib.hid (X_9.out.later b10)
            have Y_10 := Lib.hid (Y_9.out.later b10)
            have G_10 := Lib.hid (G_9.out.later b10)
            have B10 := Lib.hid (below_nx B9.out b10)
            clear b10
            go_wp2_with fail
            refine (HLg.out _ (H.out.later B10.out)).mono ?_
            rintro e u11 ⟨v11, rfl, i11, b11⟩
            have X_11 := Lib.hid (X_10.out.later b11)
            have G_11 := Lib.hid i11
            have B11 := Lib.hid (below_nx B10.out b11)
            clear b11 i11
            go_wp2_with fail
            refine (HLs.out _ (K.out.later B11.out)).mono ?_
            rintro e u12 ⟨v12, rfl, i12, b12⟩
            have X_12 := Lib.hid (X_11.out.later b12)
            have G_12 := Lib.hid (G_11.out.later b12)
            have S_12 := Lib.hid i12
            have B12 := Lib.hid (below_nx B11.out b12)
            clear b12 i12
            go_wp2_with fail
            refine (HWs.out _ _ _ G_12.out S_12.out).mono ?_
            rintro e u13 ⟨rfl, b13⟩
            have X_13 := Lib.hid (X_12.out.later b13)
            have G_13 := Lib.hid (G_12.out.later b13)
            have S_13 := Lib.hid (S_12.out.later b13)
            have B13 := Lib.hid (below_nx B12.out b13)
            clear b13
            go_wp2_with fail
            refine (HAw.out _).mono ?_
            rintro e uz ⟨rfl, bz⟩
            go_wp2
            go_ret
            exact ⟨rfl, below_nx B13.out bz⟩
end

end Go.Proofs.Ytlmfmfbnbbooaaa
