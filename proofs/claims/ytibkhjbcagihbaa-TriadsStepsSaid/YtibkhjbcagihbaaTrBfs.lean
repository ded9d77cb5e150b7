/-
  The walk by the shortest ways, as plain lists: what is found, with the walk that leads there. Plain mathematics.
-/
import Derived.Test.YtibkhjbcagihbaaTrMath
namespace Go.Proofs.Ytibkhjbcagihbaa

abbrev St := List (Nat × List Nat)
def hasK (L : St) (t : Nat) : Bool := L.any (fun p => p.1 == t)
def addL (n a b : Nat) (p : Nat × List Nat) (L : St) (c : Nat) : St :=
  if hasK L (stepN n a b p.1 c) then L else L ++ [(stepN n a b p.1 c, p.2 ++ [c])]
def visit (n a b : Nat) (cs : List Nat) (p : Nat × List Nat) (L : St) : St := cs.foldl (addL n a b p) L
def bfsGo (n a b : Nat) (cs : List Nat) : Nat → St → Nat → St
  | 0, L, _ => L
  | f + 1, L, i => match L[i]? with
    | none => L
    | some p => bfsGo n a b cs f (visit n a b cs p L) (i + 1)
def bfs (n a b s : Nat) (cs : List Nat) : St := bfsGo n a b cs (2 * n) [(s, [])] 0
/-- The walk that is laid at a triad. -/
def lookL (L : St) (t : Nat) : Option (List Nat) := (L.find? (fun p => p.1 == t)).map Prod.snd

theorem hasK_iff (L : St) (t : Nat) : hasK L t = true ↔ t ∈ L.map Prod.fst := by
  unfold hasK
  rw [List.any_eq_true, List.mem_map]
  constructor
  · rintro ⟨p, hp, h⟩; exact ⟨p, hp, by simpa using h⟩
  · rintro ⟨p, hp, h⟩; exact ⟨p, hp, by simpa using h⟩
theorem hasK_append (L M : St) (t : Nat) : hasK (L ++ M) t = (hasK L t || hasK M t) := by unfold hasK; rw [List.any_append]
theorem lookL_isSome (L : St) (t : Nat) : (lookL L t).isSome = hasK L t := by
  unfold lookL hasK
  rw [Option.isSome_map, Bool.eq_iff_iff, List.find?_isSome, List.any_eq_true]

theorem lookL_append (L : St) (p : Nat × List Nat) (t : Nat) (h : hasK L p.1 = false) : lookL (L ++ [p]) t = if t = p.1 then some p.2 else lookL L t := by
  unfold lookL
  rw [List.find?_append]
  by_cases e : t = p.1
  · rw [if_pos e, e]
    have : L.find? (fun q => q.1 == p.1) = none := by
      rw [List.find?_eq_none]; intro q hq hc
      have := List.any_eq_false.1 h q hq
      exact this hc
    rw [this]; simp
  · rw [if_neg e]
    have : [p].find? (fun q => q.1 == t) = none := by
      rw [List.find?_eq_none]; intro q hq hc
      rw [List.mem_singleton] at hq; subst hq
      exact e (by simpa using hc : q.1 = t).symm
    rw [this, Option.or_none]

theorem addL_prefix (n a b : Nat) (p : Nat × List Nat) (L : St) (c : Nat) : L <+: addL n a b p L c := by
  unfold addL; split
  · exact List.prefix_refl _
  · exact List.prefix_append _ _
theorem visit_prefix (n a b : Nat) (p : Nat × List Nat) : ∀ (cs : List Nat) (L : St), L <+: visit n a b cs p L
  | [], _ => List.prefix_refl _
  | c :: cs, L => (addL_prefix n a b p L c).trans (visit_prefix n a b p cs _)
theorem hasK_mono {L M : St} (h : L <+: M) {t : Nat} (e : hasK L t = true) : hasK M t = true := by
  obtain ⟨x, rfl⟩ := h
  rw [hasK_append, e]; rfl
theorem get_mono {L M : St} (h : L <+: M) {i : Nat} {p : Nat × List Nat} (e : L[i]? = some p) : M[i]? = some p := by
  obtain ⟨x, rfl⟩ := h
  rw [List.getElem?_append_left (List.getElem?_eq_some_iff.1 e).1]; exact e

theorem nodup_le : ∀ (m : Nat) (l : List Nat), l.Nodup → (∀ x ∈ l, x < m) → l.length ≤ m
  | 0, l, _, h => by
    cases l with
    | nil => exact Nat.le_refl _
    | cons x l => exact absurd (h x (by simp)) (by omega)
  | m + 1, l, hn, h => by
    have h1 := nodup_le m (l.erase m) (hn.erase m) (fun x hx => by
      have h2 := (hn.mem_erase_iff).1 hx
      have := h x h2.2
      have := h2.1
      omega)
    by_cases hm : m ∈ l
    · rw [List.length_erase_of_mem hm] at h1; omega
    · rw [List.erase_of_not_mem hm] at h1; omega

structure BInv (n a b s : Nat) (cs : List Nat) (L : St) : Prop where
  nodup : (L.map Prod.fst).Nodup
  lt : ∀ p ∈ L, p.1 < 2 * n
  walk : ∀ p ∈ L, walkN n a b s p.2 = p.1
  lets : ∀ p ∈ L, ∀ c ∈ p.2, c ∈ cs
  first : L[0]? = some (s, [])
  len : ∀ (j : Nat) (p : Nat × List Nat), L[j]? = some p → p.2.length ≤ j

theorem BInv.start {n a b s : Nat} (hs : s < 2 * n) (cs : List Nat) : BInv n a b s cs [(s, [])] := by
  refine ⟨by simp, ?_, ?_, ?_, rfl, ?_⟩
  · intro p hp; rw [List.mem_singleton] at hp; subst hp; exact hs
  · intro p hp; rw [List.mem_singleton] at hp; subst hp; rfl
  · intro p hp c hc; rw [List.mem_singleton] at hp; subst hp; cases hc
  · intro j p hp
    cases j with
    | zero => simp at hp; subst hp; exact Nat.le_refl _
    | succ j => simp at hp

theorem BInv.size {n a b s : Nat} {cs : List Nat} {L : St} (h : BInv n a b s cs L) : L.length ≤ 2 * n := by
  have := nodup_le (2 * n) (L.map Prod.fst) h.nodup (fun x hx => by obtain ⟨p, hp, rfl⟩ := List.mem_map.1 hx; exact h.lt p hp)
  simpa using this

theorem BInv.add {n a b s : Nat} {cs : List Nat} {L : St} (hk : KOk n a b) (h : BInv n a b s cs L) {i : Nat} {p : Nat × List Nat} (hp : L[i]? = some p) {c : Nat} (hc : c ∈ cs) :
    BInv n a b s cs (addL n a b p L c) := by
  unfold addL
  have hpm := List.mem_of_getElem? hp
  have hil := (List.getElem?_eq_some_iff.1 hp).1
  split
  · exact h
  · rename_i hh
    have hh' : stepN n a b p.1 c ∉ L.map Prod.fst := fun hm => hh ((hasK_iff _ _).2 hm)
    refine ⟨?_, ?_, ?_, ?_, ?_, ?_⟩
    · rw [List.map_append, List.nodup_append]
      refine ⟨h.nodup, by simp, ?_⟩
      intro x hx y hy
      rw [List.map_cons, List.map_nil, List.mem_singleton] at hy
      subst hy
      intro e; subst e; exact hh' hx
    · intro q hq
      rcases List.mem_append.1 hq with hq | hq
      · exact h.lt q hq
      · rw [List.mem_singleton] at hq; subst hq; exact step_lt hk _ _ (h.lt p hpm)
    · intro q hq
      rcases List.mem_append.1 hq with hq | hq
      · exact h.walk q hq
      · rw [List.mem_singleton] at hq; subst hq
        show walkN n a b s (p.2 ++ [c]) = _
        rw [walk_append, h.walk p hpm]; rfl
    · intro q hq
      rcases List.mem_append.1 hq with hq | hq
      · exact h.lets q hq
      · rw [List.mem_singleton] at hq; subst hq
        intro d hd
        rcases List.mem_append.1 hd with hd | hd
        · exact h.lets p hpm d hd
        · rw [List.mem_singleton] at hd; subst hd; exact hc
    · exact get_mono (List.prefix_append _ _) h.first
    · intro j q hq
      by_cases hj : j < L.length
      · rw [List.getElem?_append_left hj] at hq; exact h.len j q hq
      · have hj2 := (List.getElem?_eq_some_iff.1 hq).1
        rw [List.length_append, List.length_singleton] at hj2
        obtain rfl : j = L.length := by omega
        rw [List.getElem?_append_right (Nat.le_refl _), Nat.sub_self] at hq
        simp at hq; subst hq
        have := h.len i p hp
        rw [List.length_append, List.length_singleton]; show p.2.length + 1 ≤ _; omega

theorem addL_has (n a b : Nat) (p : Nat × List Nat) (L : St) (c : Nat) : hasK (addL n a b p L c) (stepN n a b p.1 c) = true := by
  unfold addL; split
  · assumption
  · rw [hasK_append]; simp [hasK]

theorem BInv.visit {n a b s : Nat} {cs : List Nat} (hk : KOk n a b) {i : Nat} {p : Nat × List Nat} : ∀ (ds : List Nat) {L : St}, BInv n a b s cs L → L[i]? = some p → (∀ c ∈ ds, c ∈ cs) →
    BInv n a b s cs (visit n a b ds p L) ∧ ∀ c ∈ ds, hasK (Proofs.Ytibkhjbcagihbaa.visit n a b ds p L) (stepN n a b p.1 c) = true
  | [], L, h, _, _ => ⟨h, fun c hc => by cases hc⟩
  | d :: ds, L, h, hp, hd => by
    have h1 := h.add hk hp (hd d (by simp))
    have h2 := BInv.visit hk ds h1 (get_mono (addL_prefix ..) hp) (fun c hc => hd c (by simp [hc]))
    refine ⟨h2.1, fun c hc => ?_⟩
    rcases List.mem_cons.1 hc with rfl | hc
    · exact hasK_mono (visit_prefix n a b p ds _) (addL_has n a b p L c)
    · exact h2.2 c hc

def Closed (n a b : Nat) (cs : List Nat) (L : St) (i : Nat) : Prop := ∀ (j : Nat) (p : Nat × List Nat), j < i → L[j]? = some p → ∀ c ∈ cs, hasK L (stepN n a b p.1 c) = true

theorem Closed.next {n a b s : Nat} {cs : List Nat} (hk : KOk n a b) {L : St} {i : Nat} {p : Nat × List Nat} (h : BInv n a b s cs L) (hc : Closed n a b cs L i) (hp : L[i]? = some p) : Closed n a b cs (visit n a b cs p L) (i + 1) := by
  have hv := BInv.visit hk cs h hp (fun c hc => hc)
  have hpre := visit_prefix n a b p cs L
  intro j q hj hq c hcs
  by_cases e : j = i
  · subst e
    rw [get_mono hpre hp] at hq
    cases hq
    exact hv.2 c hcs
  · have hlt : j < L.length := by have := (List.getElem?_eq_some_iff.1 hp).1; omega
    have hq' : L[j]? = some q := by
      obtain ⟨x, hx⟩ := hpre
      rw [← hx, List.getElem?_append_left hlt] at hq; exact hq
    exact hasK_mono hpre (hc j q (by omega) hq' c hcs)

theorem bfsGo_inv {n a b s : Nat} {cs : List Nat} (hk : KOk n a b) : ∀ (f : Nat) (L : St) (i : Nat), BInv n a b s cs L → Closed n a b cs L i → 2 * n ≤ f + i →
    BInv n a b s cs (bfsGo n a b cs f L i) ∧ Closed n a b cs (bfsGo n a b cs f L i) (bfsGo n a b cs f L i).length
  | 0, L, i, h, hc, hf => ⟨h, fun j p (hj : j < L.length) hp => hc j p (by have := h.size; omega) hp⟩
  | f + 1, L, i, h, hc, hf => by
    unfold bfsGo
    cases hp : L[i]? with
    | none => exact ⟨h, fun j p (hj : j < L.length) hp' => hc j p (by have := List.getElem?_eq_none_iff.1 hp; omega) hp'⟩
    | some p => exact bfsGo_inv hk f _ (i + 1) (BInv.visit hk cs h hp (fun c hc => hc)).1 (Closed.next hk h hc hp) (by omega)

theorem bfs_inv {n a b s : Nat} (hk : KOk n a b) (hs : s < 2 * n) (cs : List Nat) : BInv n a b s cs (bfs n a b s cs) ∧ Closed n a b cs (bfs n a b s cs) (bfs n a b s cs).length :=
  bfsGo_inv hk (2 * n) _ 0 (BInv.start hs cs) (fun j p hj => absurd hj (Nat.not_lt_zero _)) (by omega)

/-- One visit more is still the same whole. -/
theorem bfsGo_step (n a b : Nat) (cs : List Nat) (f : Nat) (L : St) (i : Nat) (p : Nat × List Nat) (hp : L[i]? = some p) : bfsGo n a b cs (f + 1) L i = bfsGo n a b cs f (visit n a b cs p L) (i + 1) := by
  rw [bfsGo, hp]
theorem bfsGo_end (n a b : Nat) (cs : List Nat) (f : Nat) (L : St) (i : Nat) (hp : L.length ≤ i) : bfsGo n a b cs f L i = L := by
  cases f with
  | zero => rfl
  | succ f => rw [bfsGo, List.getElem?_eq_none hp]

/-- What a walk of these steps leads to is found. -/
theorem bfs_reach {n a b s : Nat} (hk : KOk n a b) (hs : s < 2 * n) (cs : List Nat) : ∀ (l : List Nat), (∀ c ∈ l, c ∈ cs) → hasK (bfs n a b s cs) (walkN n a b s l) = true := by
  obtain ⟨hI, hC⟩ := bfs_inv hk hs cs
  have key : ∀ (l : List Nat) (t : Nat), hasK (bfs n a b s cs) t = true → (∀ c ∈ l, c ∈ cs) → hasK (bfs n a b s cs) (walkN n a b t l) = true := by
    intro l
    induction l with
    | nil => intro t ht _; exact ht
    | cons c l ih =>
      intro t ht hl
      refine ih _ ?_ (fun d hd => hl d (by simp [hd]))
      obtain ⟨p, hp, rfl⟩ := List.mem_map.1 ((hasK_iff _ _).1 ht)
      obtain ⟨j, hj⟩ := List.getElem?_of_mem hp
      exact hC j p (List.getElem?_eq_some_iff.1 hj).1 hj c (hl c (by simp))
  intro l hl
  refine key l s ?_ hl
  rw [hasK_iff]
  exact List.mem_map.2 ⟨_, List.mem_of_getElem? hI.first, rfl⟩

theorem lookL_some {L : St} {t : Nat} {l : List Nat} (e : lookL L t = some l) : (t, l) ∈ L := by
  unfold lookL at e
  obtain ⟨p, hp, rfl⟩ := Option.map_eq_some_iff.1 e
  have h1 := List.mem_of_find?_eq_some hp
  have h2 : p.1 = t := by have := List.find?_some hp; simpa using this
  rw [← h2]; exact h1

theorem nodup_fst_inj {L : St} (h : (L.map Prod.fst).Nodup) {p q : Nat × List Nat} (hp : p ∈ L) (hq : q ∈ L) (e : p.1 = q.1) : p = q := by
  induction L with
  | nil => cases hp
  | cons x L ih =>
    rw [List.map_cons, List.nodup_cons] at h
    rcases List.mem_cons.1 hp with e1 | hp
    · rcases List.mem_cons.1 hq with e2 | hq
      · rw [e1, e2]
      · exact absurd (List.mem_map.2 ⟨q, hq, by rw [← e, e1]⟩) h.1
    · rcases List.mem_cons.1 hq with e2 | hq
      · exact absurd (List.mem_map.2 ⟨p, hp, by rw [e, e2]⟩) h.1
      · exact ih h.2 hp hq

theorem lookL_of_mem {L : St} (h : (L.map Prod.fst).Nodup) {p : Nat × List Nat} (hp : p ∈ L) : lookL L p.1 = some p.2 := by
  unfold lookL
  cases hf : L.find? (fun q => q.1 == p.1) with
  | none => exact absurd (List.find?_eq_none.1 hf p hp) (by simp)
  | some q =>
    have h1 := List.mem_of_find?_eq_some hf
    have h2 : q.1 = p.1 := by have := List.find?_some hf; simpa using this
    rw [nodup_fst_inj h h1 hp h2]; rfl

/-! ### the same from another triad -/
def mapS (σ : Nat → Nat) (L : St) : St := L.map (fun p => (σ p.1, p.2))

theorem mapS_has {n : Nat} {σ : Nat → Nat} (hinj : ∀ t u, t < 2 * n → u < 2 * n → σ t = σ u → t = u) {L : St} (hL : ∀ p ∈ L, p.1 < 2 * n) {t : Nat} (ht : t < 2 * n) : hasK (mapS σ L) (σ t) = hasK L t := by
  rw [Bool.eq_iff_iff, hasK_iff, hasK_iff]
  unfold mapS
  rw [List.map_map]
  constructor
  · intro h
    obtain ⟨p, hp, e⟩ := List.mem_map.1 h
    exact List.mem_map.2 ⟨p, hp, hinj _ _ (hL p hp) ht e⟩
  · intro h
    obtain ⟨p, hp, e⟩ := List.mem_map.1 h
    exact List.mem_map.2 ⟨p, hp, by show σ p.1 = σ t; rw [e]⟩

theorem bfs_map {n a b : Nat} (hk : KOk n a b) {σ : Nat → Nat} (hinj : ∀ t u, t < 2 * n → u < 2 * n → σ t = σ u → t = u) (hst : ∀ t c, t < 2 * n → stepN n a b (σ t) c = σ (stepN n a b t c)) {s : Nat} (hs : s < 2 * n) (cs : List Nat) :
    bfs n a b (σ s) cs = mapS σ (bfs n a b s cs) := by
  have hadd : ∀ (L : St) (p : Nat × List Nat) (c : Nat), (∀ q ∈ L, q.1 < 2 * n) → p.1 < 2 * n → addL n a b (σ p.1, p.2) (mapS σ L) c = mapS σ (addL n a b p L c) := by
    intro L p c hL hp
    unfold addL
    have e : hasK (mapS σ L) (stepN n a b (σ p.1) c) = hasK L (stepN n a b p.1 c) := by rw [hst _ _ hp, mapS_has hinj hL (step_lt hk _ _ hp)]
    show (if hasK (mapS σ L) (stepN n a b (σ p.1) c) = true then _ else _) = _
    rw [e]
    split
    · rfl
    · unfold mapS; rw [List.map_append, List.map_cons, List.map_nil]
      show _ ++ [(stepN n a b (σ p.1) c, p.2 ++ [c])] = _
      rw [hst _ _ hp]
  have hlt : ∀ (L : St) (p : Nat × List Nat) (c : Nat), (∀ q ∈ L, q.1 < 2 * n) → p.1 < 2 * n → ∀ q ∈ addL n a b p L c, q.1 < 2 * n := by
    intro L p c hL hp q hq
    unfold addL at hq
    split at hq
    · exact hL q hq
    · rcases List.mem_append.1 hq with hq | hq
      · exact hL q hq
      · rw [List.mem_singleton] at hq; subst hq; exact step_lt hk _ _ hp
  have hvis : ∀ (ds : List Nat) (L : St) (p : Nat × List Nat), (∀ q ∈ L, q.1 < 2 * n) → p.1 < 2 * n → visit n a b ds (σ p.1, p.2) (mapS σ L) = mapS σ (visit n a b ds p L) ∧ ∀ q ∈ visit n a b ds p L, q.1 < 2 * n := by
    intro ds
    induction ds with
    | nil => intro L p hL _; exact ⟨rfl, hL⟩
    | cons d ds ih =>
      intro L p hL hp
      have := ih (addL n a b p L d) p (hlt L p d hL hp) hp
      refine ⟨?_, this.2⟩
      show visit n a b ds (σ p.1, p.2) (addL n a b (σ p.1, p.2) (mapS σ L) d) = _
      rw [hadd L p d hL hp, this.1]; rfl
  have hgo : ∀ (f : Nat) (L : St) (i : Nat), (∀ q ∈ L, q.1 < 2 * n) → bfsGo n a b cs f (mapS σ L) i = mapS σ (bfsGo n a b cs f L i) := by
    intro f
    induction f with
    | zero => intro L i _; rfl
    | succ f ih =>
      intro L i hL
      have e : (mapS σ L)[i]? = (L[i]?).map (fun p => (σ p.1, p.2)) := by unfold mapS; rw [List.getElem?_map]
      rw [bfsGo, bfsGo, e]
      cases hp : L[i]? with
      | none => rfl
      | some p =>
        show bfsGo n a b cs f (visit n a b cs (σ p.1, p.2) (mapS σ L)) (i + 1) = _
        have hv := hvis cs L p hL (hL p (List.mem_of_getElem? hp))
        rw [hv.1, ih _ _ hv.2]
  show bfsGo n a b cs (2 * n) (mapS σ [(s, [])]) 0 = _
  exact hgo _ _ _ (fun q hq => by rw [List.mem_singleton] at hq; subst hq; exact hs)

/-- From any triad it is that from triad 0, moved, or turned. -/
theorem bfs_from {n a b : Nat} (hk : KOk n a b) {s : Nat} (hs : s < 2 * n) : ∃ σ : Nat → Nat, σ 0 = s ∧ (∀ t, t < 2 * n → σ t < 2 * n) ∧ (∀ t u, t < 2 * n → u < 2 * n → σ t = σ u → t = u) ∧ (∀ t c, t < 2 * n → stepN n a b (σ t) c = σ (stepN n a b t c)) ∧ ∀ cs, bfs n a b s cs = mapS σ (bfs n a b 0 cs) := by
  have hn := hk.pos
  have h0 : (0 : Nat) = tri n false 0 := by unfold tri; simp
  have hst : ∀ t c, t < 2 * n → stepN n a b (shiftN n t s (decide (n ≤ s))) c = shiftN n (stepN n a b t c) s (decide (n ≤ s)) := by
    intro t c ht
    generalize decide (n ≤ s) = e
    rw [tri_of ht, tri_step hk, shift_tri hn, shift_tri hn, tri_step hk, tri_inj hn]
    generalize decide (n ≤ t) = d
    refine ⟨by cases d <;> cases e <;> rfl, ?_⟩
    cases d <;> cases e <;> simp <;> congr 1 <;> omega
  have hinj : ∀ t u, t < 2 * n → u < 2 * n → shiftN n t s (decide (n ≤ s)) = shiftN n u s (decide (n ≤ s)) → t = u := by
    intro t u ht hu e
    generalize decide (n ≤ s) = d at e
    rw [tri_of ht, tri_of hu, shift_tri hn, shift_tri hn, tri_inj hn] at e
    rw [tri_of ht, tri_of hu, tri_inj hn]
    obtain ⟨e1, e2⟩ := e
    refine ⟨by cases d <;> simpa using e1, ?_⟩
    cases d
    · simp only [Bool.false_eq_true, if_false] at e2
      have e3 := congrArg (fun x => (x - (s : Int)) % n) e2
      simp only [Int.emod_sub_emod] at e3
      have e4 : ∀ x : Int, ((s : Int) + x) - s = x := fun x => by omega
      rwa [e4, e4] at e3
    · simp only [if_true] at e2
      have e3 := congrArg (fun x => ((s : Int) - x) % n) e2
      simp only [Int.sub_emod_emod] at e3
      have e4 : ∀ x : Int, (s : Int) - (s - x) = x := fun x => by omega
      rwa [e4, e4] at e3
  refine ⟨fun t => shiftN n t s (decide (n ≤ s)), ?_, fun t _ => ?_, hinj, hst, fun cs => ?_⟩
  · show shiftN n 0 s (decide (n ≤ s)) = s
    have e := shift_tri hn false 0 s (decide (n ≤ s))
    rw [← h0] at e
    rw [e]
    conv => rhs; rw [tri_of hs]
    rw [tri_inj hn]
    refine ⟨by cases decide (n ≤ s) <;> rfl, ?_⟩
    cases decide (n ≤ s) <;> simp
  · exact tri_lt hn _ _
  · have e := bfs_map hk hinj hst (s := 0) (by omega) cs
    have e0 : shiftN n 0 s (decide (n ≤ s)) = s := by
      have e := shift_tri hn false 0 s (decide (n ≤ s))
      rw [← h0] at e
      rw [e]
      conv => rhs; rw [tri_of hs]
      rw [tri_inj hn]
      refine ⟨by cases decide (n ≤ s) <;> rfl, ?_⟩
      cases decide (n ≤ s) <;> simp
    rw [e0] at e
    exact e
end Go.Proofs.Ytibkhjbcagihbaa
