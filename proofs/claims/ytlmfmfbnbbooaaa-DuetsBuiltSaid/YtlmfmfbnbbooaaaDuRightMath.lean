/-
  The right second parts as a set, in their order; the best of them; their number, note by note. Plain mathematics.
-/
import Derived.Test.YtlmfmfbnbbooaaaDuAlong
import Derived.Test.YtlmfmfbnbbooaaaDuBest
import Derived.Test.YtlmfmfbnbbooaaaShComp
namespace Go.Proofs.Ytlmfmfbnbbooaaa
open Go.ChangeShapes Go.WideShapes Go.ChangeAt Go.RowKit
set_option maxRecDepth 100000

theorem notes_append (a b : List Int) : notesB (a ++ b) = (notesB a && notesB b) := by unfold notesB; rw [List.all_append]
theorem nAt_pre (b t : List Int) {j : Nat} (h : j < b.length) : nAt (b ++ t) j = nAt b j := by
  unfold nAt; rw [List.getElem?_append_left h]
theorem fault_pre (gs b t u : List Int) {i : Nat} (h : i < b.length) : faultN gs (b ++ t) i = faultN gs (b ++ u) i :=
  fault_local fun j hj => by rw [nAt_pre b t (by omega), nAt_pre b u (by omega)]
theorem mem_next {gs b : List Int} {x : Nat} : x ∈ nextL gs b ↔ x < 21 ∧ faultN gs (b ++ [(x : Int)]) b.length = 0 := by
  unfold nextL
  rw [List.mem_filter, List.mem_range, decide_eq_true_eq]
theorem mem_beg (gs : List Int) : ∀ (f : Nat) (b m : List Int), m ∈ begL gs f b ↔ ∃ t, m = b ++ t ∧ 1 ≤ t.length ∧ t.length ≤ f ∧ notesB t = true ∧ ∀ i, b.length ≤ i → i < m.length → faultN gs m i = 0
  | 0, b, m => by
    constructor
    · intro h; simp [begL] at h
    · rintro ⟨t, _, h1, h2, _⟩; omega
  | f + 1, b, m => by
    unfold begL
    rw [List.mem_flatMap]
    constructor
    · rintro ⟨x, hx, hm⟩
      obtain ⟨x21, hf⟩ := mem_next.1 hx
      rcases List.mem_cons.1 hm with rfl | hm
      · refine ⟨[(x : Int)], rfl, by simp, by simp, by unfold notesB noteB; simp; omega, fun i h1 h2 => ?_⟩
        rw [List.length_append] at h2
        simp only [List.length_cons, List.length_nil] at h2
        obtain rfl : i = b.length := by omega
        exact hf
      · obtain ⟨t, rfl, h1, h2, h3, h4⟩ := (mem_beg gs f _ _).1 hm
        refine ⟨(x : Int) :: t, by simp, by simp, by rw [List.length_cons]; omega, ?_, fun i i1 i2 => ?_⟩
        · have : notesB ([(x : Int)] ++ t) = true := by
            rw [notes_append, h3, Bool.and_true]; unfold notesB noteB; simp; omega
          exact this
        · by_cases hi : i = b.length
          · subst hi
            rw [← hf]
            have := fault_pre gs (b ++ [(x : Int)]) t [] (i := b.length) (by simp)
            rw [List.append_nil] at this
            exact this
          · exact h4 i (by rw [List.length_append]; simp; omega) i2
    · rintro ⟨t, rfl, h1, h2, h3, h4⟩
      cases t with
      | nil => simp at h1
      | cons y t =>
        have hy : 0 ≤ y ∧ y ≤ 20 := by
          unfold notesB noteB at h3
          rw [List.all_cons, Bool.and_eq_true, decide_eq_true_eq] at h3
          exact h3.1
        have ht : notesB t = true := by
          unfold notesB at h3 ⊢
          rw [List.all_cons, Bool.and_eq_true] at h3
          exact h3.2
        obtain ⟨x, rfl⟩ : ∃ x : Nat, y = x := ⟨y.toNat, by omega⟩
        have e : b ++ (x : Int) :: t = (b ++ [(x : Int)]) ++ t := by simp
        rw [e] at h4 ⊢
        refine ⟨x, mem_next.2 ⟨by omega, ?_⟩, ?_⟩
        · have := fault_pre gs (b ++ [(x : Int)]) [] t (i := b.length) (by simp)
          rw [List.append_nil] at this
          rw [this]
          exact h4 _ (Nat.le_refl _) (by simp)
        · cases t with
          | nil => simp
          | cons z t =>
            refine List.mem_cons.2 (.inr ((mem_beg gs f _ _).2 ⟨z :: t, rfl, by simp, by simp at h2 ⊢; omega, ht, fun i i1 i2 => h4 i ?_ i2⟩))
            rw [List.length_append] at i1
            simp at i1
            omega
theorem mem_right {gs s : List Int} (h : 1 ≤ gs.length) : s ∈ rightL gs ↔ s.length = gs.length ∧ notesB s = true ∧ keptB gs s = true := by
  unfold rightL
  rw [List.mem_filter, mem_beg, decide_eq_true_eq, kept_iff]
  constructor
  · rintro ⟨⟨t, rfl, h1, h2, h3, h4⟩, hl⟩
    exact ⟨hl, h3, fun i hi => h4 i (by simp) hi⟩
  · rintro ⟨h1, h2, h3⟩
    exact ⟨⟨s, rfl, by omega, by omega, h2, fun i _ hi => h3 i hi⟩, h1⟩
theorem right_pair {gs s : List Int} (hg : dpartB gs = true) : s ∈ rightL gs ↔ pairB gs s = true ∧ keptB gs s = true := by
  have g1 := dpart_len hg
  rw [mem_right g1.1, pair_cases, hg, Bool.true_and, Bool.and_eq_true, decide_eq_true_eq]
  unfold dpartB
  rw [Bool.and_eq_true, decide_eq_true_eq]
  constructor
  · rintro ⟨h1, h2, h3⟩; exact ⟨⟨⟨by omega, h2⟩, h1.symm⟩, h3⟩
  · rintro ⟨⟨⟨_, h2⟩, h1⟩, h3⟩; exact ⟨h1.symm, h2, h3⟩

theorem comp_pre : ∀ (b : List Int) {t : List Int}, t ≠ [] → compL b (b ++ t) = -1
  | [], t, h => by
    cases t with
    | nil => exact absurd rfl h
    | cons y t => rfl
  | x :: b, t, h => by
    rw [List.cons_append]
    unfold compL
    rw [if_neg (by omega), if_neg (by omega)]
    exact comp_pre b h
theorem comp_at : ∀ (b : List Int) {x y : Int} (s t : List Int), x < y → compL (b ++ x :: s) (b ++ y :: t) = -1
  | [], x, y, s, t, h => by
    rw [List.nil_append, List.nil_append]
    unfold compL
    rw [if_pos h]
  | z :: b, x, y, s, t, h => by
    rw [List.cons_append, List.cons_append]
    unfold compL
    rw [if_neg (by omega), if_neg (by omega)]
    exact comp_at b s t h
theorem next_pair (gs b : List Int) : (nextL gs b).Pairwise (· < ·) := by
  unfold nextL
  exact List.Pairwise.filter _ List.pairwise_lt_range
theorem beg_pair (gs : List Int) : ∀ (f : Nat) (b : List Int), (begL gs f b).Pairwise fun x y => compL x y = -1
  | 0, b => List.Pairwise.nil
  | f + 1, b => by
    unfold begL
    rw [List.pairwise_flatMap]
    refine ⟨fun x _ => List.pairwise_cons.2 ⟨fun m hm => ?_, beg_pair gs f _⟩, (next_pair gs b).imp fun {x y} hxy m hm k hk => ?_⟩
    · obtain ⟨t, rfl, h1, _⟩ := (mem_beg gs f _ _).1 hm
      exact comp_pre _ (fun e => by rw [e] at h1; simp at h1)
    · have hh : ∀ (z : Nat) (q : List Int), q ∈ (b ++ [(z : Int)]) :: begL gs f (b ++ [(z : Int)]) → ∃ t, q = b ++ (z : Int) :: t := fun z q hq => by
        rcases List.mem_cons.1 hq with rfl | hq
        · exact ⟨[], by simp⟩
        · obtain ⟨t, rfl, _⟩ := (mem_beg gs f _ _).1 hq
          exact ⟨t, by simp⟩
      obtain ⟨t, rfl⟩ := hh x m hm
      obtain ⟨u, rfl⟩ := hh y k hk
      exact comp_at b t u (by omega)
theorem right_sorted (gs : List Int) : (rightL gs).Pairwise fun x y => compL x y = -1 := List.Pairwise.filter _ (beg_pair gs _ _)
theorem first_least {gs l0 : List Int} {rest : List (List Int)} (h : rightL gs = l0 :: rest) {s : List Int} (hs : s ∈ rightL gs) : compL l0 s ≤ 0 := by
  have hp := right_sorted gs
  rw [h] at hp hs
  rcases List.mem_cons.1 hs with rfl | hs
  · rw [compL_self]; omega
  · rw [(List.pairwise_cons.1 hp).1 s hs]; omega
theorem best_all (gs : List Int) : ∀ (n : Nat) (l : List (List Int)), l.length = n → l.Pairwise (fun x y => compL x y = -1) → ∀ b, bestF gs l = some b →
    b ∈ l ∧ (∀ x ∈ l, worthW gs x ≤ worthW gs b) ∧ ∀ x ∈ l, worthW gs x = worthW gs b → compL b x ≤ 0
  | 0, l, hl, _, b, hb => by
    rw [List.length_eq_zero_iff.1 hl] at hb; cases hb
  | n + 1, l, hl, hp, b, hb => by
    rcases List.eq_nil_or_concat l with rfl | ⟨l', x, rfl⟩
    · simp at hl
    · rw [List.concat_eq_append] at hl hp hb ⊢
      rw [List.length_append] at hl
      simp at hl
      obtain ⟨hp1, _, hp2⟩ := List.pairwise_append.1 hp
      rw [bestF_snoc] at hb
      cases e : bestF gs l' with
      | none =>
        rw [e] at hb
        cases hb
        rw [bestF_none e]
        refine ⟨by simp, fun y hy => ?_, fun y hy _ => ?_⟩
        · rw [List.nil_append, List.mem_singleton] at hy; rw [hy]; omega
        · rw [List.nil_append, List.mem_singleton] at hy; rw [hy, compL_self]; omega
      | some c =>
        rw [e] at hb
        obtain ⟨h1, h2, h3⟩ := best_all gs n l' hl hp1 c e
        dsimp only at hb
        by_cases hlt : worthW gs c < worthW gs x
        · rw [if_pos hlt] at hb
          cases hb
          refine ⟨by simp, fun y hy => ?_, fun y hy he => ?_⟩
          · rcases List.mem_append.1 hy with hy | hy
            · have := h2 y hy; omega
            · rw [List.mem_singleton.1 hy]; omega
          · rcases List.mem_append.1 hy with hy | hy
            · have := h2 y hy; omega
            · rw [List.mem_singleton.1 hy, compL_self]; omega
        · rw [if_neg hlt] at hb
          cases hb
          refine ⟨by simp [h1], fun y hy => ?_, fun y hy he => ?_⟩
          · rcases List.mem_append.1 hy with hy | hy
            · exact h2 y hy
            · rw [List.mem_singleton.1 hy]; omega
          · rcases List.mem_append.1 hy with hy | hy
            · exact h3 y hy he
            · rw [hp2 _ h1 y hy]; omega

/-- How many ways there are through the next notes. -/
def waysN (gs : List Int) : Nat → List Int → Nat
  | 0, _ => 1
  | f + 1, b => ((nextL gs b).map fun (x : Nat) => waysN gs f (b ++ [(x : Int)])).sum
theorem sum_flat {α β : Type} (p : β → Bool) (f : α → List β) : ∀ l : List α, ((l.flatMap f).filter p).length = (l.map fun a => ((f a).filter p).length).sum
  | [] => rfl
  | a :: l => by rw [List.flatMap_cons, List.filter_append, List.length_append, List.map_cons, List.sum_cons, sum_flat p f l]
theorem ways_count (gs : List Int) : ∀ (f : Nat) (b : List Int), ((b :: begL gs f b).filter fun s => decide (s.length = b.length + f)).length = waysN gs f b
  | 0, b => by unfold begL waysN; simp
  | f + 1, b => by
    rw [List.filter_cons_of_neg (by simp)]
    unfold begL waysN
    rw [sum_flat]
    congr 1
    refine List.map_congr_left fun x _ => ?_
    rw [← ways_count gs f]
    have e : (b ++ [(x : Int)]).length + f = b.length + (f + 1) := by rw [List.length_append]; simp; omega
    rw [e]
theorem ways_right {gs : List Int} (h : 1 ≤ gs.length) : waysN gs gs.length [] = (rightL gs).length := by
  rw [← ways_count]
  unfold rightL
  rw [List.filter_cons_of_neg (by simp; omega)]
  simp
theorem sum_ge {l : List Nat} {a : Nat} (h : a ∈ l) : a ≤ l.sum := by
  induction l with
  | nil => cases h
  | cons b l ih =>
    rw [List.sum_cons]
    rcases List.mem_cons.1 h with rfl | h
    · omega
    · have := ih h; omega
end Go.Proofs.Ytlmfmfbnbbooaaa
