/-
  The walks that are found are the first ones of the shortest. Plain mathematics.
-/
import Derived.Test.YtibkhjbcagihbaaTrChk
namespace Go.Proofs.Ytibkhjbcagihbaa

def ltL : List Nat → List Nat → Prop
  | a :: l, b :: m => a < b ∨ (a = b ∧ ltL l m)
  | _, _ => False
theorem ltL_trans : ∀ {l m k : List Nat}, ltL l m → ltL m k → ltL l k
  | a :: l, b :: m, c :: k, h1, h2 => by
    simp only [ltL] at h1 h2 ⊢
    rcases h1 with h1 | ⟨h1, h1'⟩ <;> rcases h2 with h2 | ⟨h2, h2'⟩
    · left; omega
    · left; omega
    · left; omega
    · right; exact ⟨by omega, ltL_trans h1' h2'⟩
theorem ltL_snoc : ∀ {l m : List Nat} (x y : Nat), ltL l m → ltL (l ++ [x]) (m ++ [y])
  | a :: l, b :: m, x, y, h => by
    simp only [ltL, List.cons_append] at h ⊢
    rcases h with h | ⟨h, h'⟩
    · left; exact h
    · right; exact ⟨h, ltL_snoc x y h'⟩
theorem ltL_last : ∀ (l : List Nat) {x y : Nat}, x < y → ltL (l ++ [x]) (l ++ [y])
  | [], x, y, h => Or.inl h
  | a :: l, x, y, h => Or.inr ⟨rfl, ltL_last l h⟩
theorem ltL_le : ∀ {l m : List Nat}, ltL l m → leW1 l m = true
  | a :: l, b :: m, h => by
    simp only [ltL] at h
    simp only [leW1, Bool.or_eq_true, Bool.and_eq_true, Nat.blt, Nat.ble_eq, Nat.beq_eq]
    rcases h with h | ⟨h, h'⟩
    · left; omega
    · right; exact ⟨h, ltL_le h'⟩

def ltW (l m : List Nat) : Prop := l.length < m.length ∨ (l.length = m.length ∧ ltL l m)
theorem ltW_trans {l m k : List Nat} (h1 : ltW l m) (h2 : ltW m k) : ltW l k := by
  unfold ltW at *
  rcases h1 with h1 | ⟨h1, h1'⟩ <;> rcases h2 with h2 | ⟨h2, h2'⟩
  · left; omega
  · left; omega
  · left; omega
  · right; exact ⟨by omega, ltL_trans h1' h2'⟩
theorem ltW_snoc {l m : List Nat} (x y : Nat) (h : ltW l m) : ltW (l ++ [x]) (m ++ [y]) := by
  unfold ltW at *
  rw [List.length_append, List.length_append, List.length_singleton, List.length_singleton]
  rcases h with h | ⟨h, h'⟩
  · left; omega
  · right; exact ⟨by omega, ltL_snoc x y h'⟩
theorem ltW_last (l : List Nat) {x y : Nat} (h : x < y) : ltW (l ++ [x]) (l ++ [y]) := Or.inr ⟨by simp, ltL_last l h⟩
theorem ltW_le {l m : List Nat} (h : ltW l m) : leW l m = true := by
  rw [leW_iff]
  rcases h with h | ⟨h, h'⟩
  · exact Or.inl h
  · exact Or.inr ⟨h, ltL_le h'⟩
theorem leW_refl (l : List Nat) : leW l l = true := by rw [leW_iff]; exact Or.inr ⟨rfl, leW1_refl l⟩

theorem lookL_mono {L M : St} (h : L <+: M) {t : Nat} {l : List Nat} (e : lookL L t = some l) : lookL M t = some l := by
  obtain ⟨x, rfl⟩ := h
  unfold lookL at e ⊢
  rw [List.find?_append]
  obtain ⟨p, hp, rfl⟩ := Option.map_eq_some_iff.1 e
  rw [hp]; rfl

/-- The walks are in their order. -/
def Rising (L : St) : Prop := L.Pairwise (fun p q => ltW p.2 q.2)

theorem addL_rising {n a b : Nat} {p : Nat × List Nat} {L : St} {c : Nat} (h : Rising L) (hb : ∀ q ∈ L, ltW q.2 (p.2 ++ [c])) :
    Rising (addL n a b p L c) ∧ (∀ q ∈ addL n a b p L c, q ∈ L ∨ q.2 = p.2 ++ [c]) ∧ ∃ l, lookL (addL n a b p L c) (stepN n a b p.1 c) = some l ∧ leW l (p.2 ++ [c]) = true := by
  unfold addL
  by_cases hh : hasK L (stepN n a b p.1 c) = true
  · rw [if_pos hh]
    refine ⟨h, fun q hq => Or.inl hq, ?_⟩
    have hs : (lookL L (stepN n a b p.1 c)).isSome = true := by rw [lookL_isSome]; exact hh
    obtain ⟨l, hl⟩ := Option.isSome_iff_exists.1 hs
    exact ⟨l, hl, ltW_le (hb _ (lookL_some hl))⟩
  · have hh' : hasK L (stepN n a b p.1 c) = false := by simpa using hh
    rw [if_neg hh]
    refine ⟨?_, fun q hq => ?_, ?_⟩
    · unfold Rising
      rw [List.pairwise_append]
      refine ⟨h, List.pairwise_singleton _ _, fun q hq r hr => ?_⟩
      rw [List.mem_singleton] at hr; subst hr
      exact hb q hq
    · rcases List.mem_append.1 hq with hq | hq
      · exact Or.inl hq
      · rw [List.mem_singleton] at hq; subst hq; exact Or.inr rfl
    · refine ⟨p.2 ++ [c], ?_, leW_refl _⟩
      rw [lookL_append L (stepN n a b p.1 c, p.2 ++ [c]) _ hh']
      simp

theorem visit_rising {n a b : Nat} {p : Nat × List Nat} : ∀ (ds : List Nat) {L : St}, ds.Pairwise (· < ·) → Rising L → (∀ q ∈ L, ∀ d ∈ ds, ltW q.2 (p.2 ++ [d])) →
    Rising (visit n a b ds p L) ∧ (∀ q ∈ visit n a b ds p L, q ∈ L ∨ ∃ d ∈ ds, q.2 = p.2 ++ [d]) ∧ ∀ d ∈ ds, ∃ l, lookL (visit n a b ds p L) (stepN n a b p.1 d) = some l ∧ leW l (p.2 ++ [d]) = true
  | [], L, _, h, _ => ⟨h, fun q hq => Or.inl hq, fun d hd => by cases hd⟩
  | d :: ds, L, hds, h, hb => by
    rw [List.pairwise_cons] at hds
    obtain ⟨h1, h2, h3⟩ := addL_rising (n := n) (a := a) (b := b) h (fun q hq => hb q hq d (by simp))
    have hb2 : ∀ q ∈ addL n a b p L d, ∀ e ∈ ds, ltW q.2 (p.2 ++ [e]) := by
      intro q hq e he
      rcases h2 q hq with hq | hq
      · exact hb q hq e (by simp [he])
      · rw [hq]; exact ltW_last _ (hds.1 e he)
    obtain ⟨g1, g2, g3⟩ := visit_rising ds hds.2 h1 hb2
    refine ⟨g1, fun q hq => ?_, fun e he => ?_⟩
    · rcases g2 q hq with hq | ⟨e, he, hq⟩
      · rcases h2 q hq with hq | hq
        · exact Or.inl hq
        · exact Or.inr ⟨d, by simp, hq⟩
      · exact Or.inr ⟨e, by simp [he], hq⟩
    · rcases List.mem_cons.1 he with rfl | he
      · obtain ⟨l, hl, hle⟩ := h3
        exact ⟨l, lookL_mono (visit_prefix n a b p ds _) hl, hle⟩
      · exact g3 e he

theorem bfsGo_least {n a b s : Nat} (hk : KOk n a b) {cs : List Nat} (hcs : cs.Pairwise (· < ·)) : ∀ (f : Nat) (L : St) (i : Nat), BInv n a b s cs L → 2 * n ≤ f + i → Rising L → (∀ p, L[i]? = some p → ∀ q ∈ L, ∀ d, ltW q.2 (p.2 ++ [d])) →
    (∀ (j : Nat) (p : Nat × List Nat), j < i → L[j]? = some p → ∀ d ∈ cs, ∃ l, lookL L (stepN n a b p.1 d) = some l ∧ leW l (p.2 ++ [d]) = true) →
    ∀ p ∈ bfsGo n a b cs f L i, ∀ d ∈ cs, ∃ l, lookL (bfsGo n a b cs f L i) (stepN n a b p.1 d) = some l ∧ leW l (p.2 ++ [d]) = true
  | 0, L, i, hI, hf, _, _, hd => by
    intro p hp d hdc
    obtain ⟨j, hj⟩ := List.getElem?_of_mem (show p ∈ L from hp)
    exact hd j p (by have := hI.size; have := (List.getElem?_eq_some_iff.1 hj).1; omega) hj d hdc
  | f + 1, L, i, hI, hf, hr, hb, hd => by
    unfold bfsGo
    cases hp : L[i]? with
    | none =>
      intro p hpm d hdc
      obtain ⟨j, hj⟩ := List.getElem?_of_mem (show p ∈ L from hpm)
      exact hd j p (by have := List.getElem?_eq_none_iff.1 hp; have := (List.getElem?_eq_some_iff.1 hj).1; omega) hj d hdc
    | some p =>
      have hbp := hb p hp
      obtain ⟨h1, h2, h3⟩ := visit_rising (n := n) (a := a) (b := b) (p := p) cs hcs hr (fun q hq d _ => hbp q hq d)
      have hpre := visit_prefix n a b p cs L
      have hp' := get_mono hpre hp
      refine bfsGo_least hk hcs f _ (i + 1) (BInv.visit hk cs hI hp (fun c hc => hc)).1 (by omega) h1 ?_ ?_
      · intro r hr' q hq d
        have hlt : ltW p.2 r.2 := by
          have hi1 := (List.getElem?_eq_some_iff.1 hp')
          have hi2 := (List.getElem?_eq_some_iff.1 hr')
          have := List.pairwise_iff_getElem.1 h1 i (i + 1) hi1.1 hi2.1 (by omega)
          rwa [hi1.2, hi2.2] at this
        rcases h2 q hq with hq | ⟨e, _, hq⟩
        · exact ltW_trans (hbp q hq 0) (ltW_snoc 0 d hlt)
        · rw [hq]; exact ltW_snoc e d hlt
      · intro j q hj hq d hdc
        by_cases e : j = i
        · subst e
          rw [hp'] at hq
          cases hq
          exact h3 d hdc
        · have hlt : j < L.length := by have := (List.getElem?_eq_some_iff.1 hp).1; omega
          have hq' : L[j]? = some q := by
            obtain ⟨x, hx⟩ := hpre
            rw [← hx, List.getElem?_append_left hlt] at hq; exact hq
          obtain ⟨l, hl, hle⟩ := hd j q (by omega) hq' d hdc
          exact ⟨l, lookL_mono hpre hl, hle⟩

theorem least_at {n a b s : Nat} (hk : KOk n a b) (hs : s < 2 * n) {p : Nat × List Nat} (hp : p ∈ bfsA n a b s) {c : Nat} (hc : c ∈ lprL) : ∃ l, lookL (bfsA n a b s) (stepN n a b p.1 c) = some l ∧ leW l (p.2 ++ [c]) = true := by
  refine bfsGo_least hk (by decide) (2 * n) [(s, [])] 0 (BInv.start hs lprL) (by omega) (List.pairwise_singleton _ _) ?_ ?_ p hp c hc
  · intro q hq r hr d
    simp at hq hr
    subst hq; subst hr
    exact Or.inl (by simp)
  · intro j q hj; exact absurd hj (Nat.not_lt_zero _)

theorem least_rev {n a b s : Nat} (hk : KOk n a b) (hs : s < 2 * n) : ∀ (r : List Nat), (∀ c ∈ r, c ∈ lprL) → ∃ m, lookL (bfsA n a b s) (walkN n a b s r.reverse) = some m ∧ leW m r.reverse = true
  | [], _ => by
    have hI := (bfs_inv hk hs lprL).1
    exact ⟨[], lookL_of_mem hI.nodup (List.mem_of_getElem? hI.first), by decide⟩
  | c :: r, hl => by
    obtain ⟨m, h1, h2⟩ := least_rev hk hs r (fun d hd => hl d (by simp [hd]))
    obtain ⟨k, h3, h4⟩ := least_at hk hs (lookL_some h1) (hl c (by simp))
    refine ⟨k, ?_, ?_⟩
    · rw [List.reverse_cons, walk_append]; exact h3
    · rw [List.reverse_cons]; exact leW_trans h4 (leW_snoc c h2)

/-- No walk that leads to a triad comes before the one that was found. -/
theorem least_walk {n a b s : Nat} (hk : KOk n a b) (hs : s < 2 * n) (l : List Nat) (hl : ∀ c ∈ l, c ∈ lprL) : ∃ m, lookL (bfsA n a b s) (walkN n a b s l) = some m ∧ leW m l = true := by
  have := least_rev hk hs l.reverse (fun c hc => hl c (List.mem_reverse.1 hc))
  rwa [List.reverse_reverse] at this
end Go.Proofs.Ytibkhjbcagihbaa
